/- Contracts that the proof stands on, one behind the other. -/
import Derived.Test.YtajcmamapmeglaaP14
import Derived.BigQuiet
import Derived.Deep.AppendLies
import Derived.Deep.RegionLaw
/- The program's Fire, for every net, mark and number in memory. -/
namespace Go.Proofs.Ytajcmamapmeglaa
open Go.RowKit
set_option maxRecDepth 10000

/-- A list in a block of its own and a bool; nothing that was there is written. -/
def LEnd (g : Bool) (r : List Int) (w : World) (e : Ending) (w' : World) : Prop :=
  ∃ a b n, e = .returned (.tuple #[.slice a n n, .bool g]) ∧ Blk w' a b n r ∧ w.heap.size ≤ b ∧ Below w.heap.size w w'

theorem lend_no {p : Int} {n : Nat} {L : List (List Int)} {ys : List Int} {t : Int} {w w' : World} (h : fireOk p n L ys t = false) (hb : Below w.heap.size w w') : LEnd (fireOk p n L ys t) (fireR p n L ys t) w (.returned (.tuple #[.slice none 0 0, .bool false])) w' := by
  refine ⟨none, w.heap.size, 0, by rw [h], ⟨?_, .inl rfl⟩, Nat.le_refl _, hb⟩
  unfold fireR; rw [h]; rfl

theorem lend_yes {p : Int} {n : Nat} {L : List (List Int)} {ys : List Int} {t : Int} {w w' : World} {b m : Nat} (h : fireOk p n L ys t = true) (hl : (firedL L ys t).length = m) (hh : w'.heap[b]? = some (.cells (cellsOf (firedL L ys t)) 3 (0, 0))) (hB : w.heap.size ≤ b) (hb : Below w.heap.size w w') :
    LEnd (fireOk p n L ys t) (fireR p n L ys t) w (.returned (.tuple #[.slice (some ⟨b, 0, none⟩) m m, .bool true])) w' := by
  have hr : fireR p n L ys t = firedL L ys t := by unfold fireR; rw [h]; rfl
  exact ⟨_, b, m, by rw [h], ⟨by rw [hr]; exact hl, .inr ⟨rfl, by rw [hr]; exact hh⟩⟩, hB, hb⟩

theorem fireL_len (x0 x1 x2 ys : List Int) : (fireL x0 x1 x2 ys).length = ys.length := by unfold fireL; rw [updL_len, updL_len, updL_len]

/-- By sets as by lists. -/
theorem fire_eq {p : Int} {n nm : Nat} {L : List (List Int)} {ys : List Int} {t : Int} (hnet : netOk p n L = true) (hg : goodB p ys = true) (hl : ys.length = nm) :
    fireB n L (fOf ys nm) t = fireOk p n L ys t ∧ (fireOk p n L ys t = true → listF (partF (maskL (inOf L t)) (maskL (outOf L t)) (maskL (resOf L t)) (fOf ys nm) 16) nm = firedL L ys t) := by
  obtain ⟨hp, hlp, hy⟩ := goodB_parts hg
  have hnm : (nm : Int) = p := by omega
  unfold fireB fireOk
  rw [hnet, hg]
  by_cases g2 : inB t 0 ((n : Int) - 1) = true
  rotate_left
  · have g2' : inB t 0 ((n : Int) - 1) = false := by simpa using g2
    rw [g2']; exact ⟨rfl, fun h => by simp at h⟩
  have ht : 0 ≤ t ∧ t ≤ (n : Int) - 1 := by simpa [inB] using g2
  have htri := tri_rise (triOkOf hnet (show t.toNat < n by omega))
  obtain ⟨h0, h1, h2⟩ := htri
  have e1 := can_sub (x0 := inOf L t) hp hnm hy h0
  rw [g2, e1]
  by_cases hc : canB (inOf L t) ys = true
  · have e2 := good_cap (x0 := inOf L t) (x1 := outOf L t) (x2 := resOf L t) hp hnm hl hy h0 h1 h2 hc
    refine ⟨?_, fun _ => list_fire (x0 := inOf L t) (x1 := outOf L t) (x2 := resOf L t) hp hnm hl h0 h1 h2⟩
    unfold firedL; rw [e2, hc]; rfl
  · have hc' : canB (inOf L t) ys = false := by simpa using hc
    rw [hc']; exact ⟨rfl, fun h => by simp at h⟩

theorem partF_small {s0 s1 s2 : Nat} {f : Nat → Int} (hf : ∀ i, 0 ≤ f i ∧ f i ≤ 50) (hen : ∀ i, s0.testBit i = true → 0 < f i) (k i : Nat) : 0 ≤ partF s0 s1 s2 f k i ∧ partF s0 s1 s2 f k i ≤ 255 := by
  have h1 := hf i
  have h2 := hen i
  unfold partF stepF
  split
  · cases h3 : s0.testBit i
    · simp only [Bool.false_eq_true, if_false]
      (repeat' split) <;> omega
    · have := h2 h3
      simp only [if_true]
      (repeat' split) <;> omega
  · omega

set_option maxHeartbeats 2000000 in
theorem implFire_any (p : Int) (a am : Option Addr) (n c nm cm : Nat) (L : List (List Int)) (ys : List Int) (t : Int) (w : World) (h : Lists w a (3 * n) L) (rm : Row w am nm ys) (hs : sizeN n L ≤ 1048576) (hnm : nm ≤ 1048576) :
    Calls Try.prog 40 #[.agg #[.int .i64 p, .slice a n c], .slice am nm cm, .int .i64 t] w fun e w' => LEnd (fireOk p n L ys t) (fireR p n L ys t) w e w' := by
  have hAl := below_al w (.cells #[.int .i64 p, .slice a n c] 26)
  have HT := hide (netTok_any p a am n c nm cm L ys _ (h.below hAl) (rm.below hAl) hs hnm)
  have HLY := hide rm.1
  have HB0 := hide hAl
  clear h rm hAl
  go_enter Try.func40, Try.ntmps40
  go_wp2_with fail
  refine HT.out.mono ?_
  rintro e w1 ⟨p', a', m', c', l, rfl, hx, hb⟩
  have hz := HB0.out.size
  have HB1 := hide (HB0.out.trans (hb.mono HB0.out.size))
  have hz1 := HB1.out.size
  have hA1 := below_al w1 (.cells #[.int .i64 p', .slice a' m' c'] 59)
  have hA2 := below_al (w1.alloc (.cells #[.int .i64 p', .slice a' m' c'] 59)) (.cells #[.int .u8 0, .int .u8 0, .int .u8 0, .int .u8 0, .int .u8 0, .int .u8 0, .int .u8 0, .int .u8 0, .int .u8 0, .int .u8 0, .int .u8 0, .int .u8 0, .int .u8 0, .int .u8 0, .int .u8 0, .int .u8 0] 74)
  have hs1 : (w1.alloc (.cells #[.int .i64 p', .slice a' m' c'] 59)).heap.size = w1.heap.size + 1 := by simp
  have hg0 := heap_alloc_new (w1.alloc (.cells #[.int .i64 p', .slice a' m' c'] 59)) (.cells #[.int .u8 0, .int .u8 0, .int .u8 0, .int .u8 0, .int .u8 0, .int .u8 0, .int .u8 0, .int .u8 0, .int .u8 0, .int .u8 0, .int .u8 0, .int .u8 0, .int .u8 0, .int .u8 0, .int .u8 0, .int .u8 0] 74)
  rw [hs1] at hg0
  clear hb HT HB0
  by_cases g1 : (netOk p n L && goodB p ys) = true
  rotate_left
  · have g1' : (netOk p n L && goodB p ys) = false := by simpa using g1
    have HN := hide (fun W (hW : Below w.heap.size w W) => lend_no (w := w) (fireOk_no1 (t := t) g1') hW)
    rw [g1']
    have HBX := hide (below_setRow ((HB1.out.alloc HB1.out.size (.cells #[.int .i64 p', .slice a' m' c'] 59)).alloc (by simp; omega) (.cells #[.int .u8 0, .int .u8 0, .int .u8 0, .int .u8 0, .int .u8 0, .int .u8 0, .int .u8 0, .int .u8 0, .int .u8 0, .int .u8 0, .int .u8 0, .int .u8 0, .int .u8 0, .int .u8 0, .int .u8 0, .int .u8 0] 74)) (w1.heap.size + 1) (by omega) (packOf ys l))
    clear g1 g1' hx
    go_wp2_with (refine wpList_store_row rfl 74 _ _ rfl _ _ rfl rfl 74 _ hg0 (by rw [packOf_size]; exact Try.size74) (by rw [packOf_size]; rfl) (packOf_one _ _) ?_)
    go_ret2
    exact HN.out _ HBX.out
  have hgg := g1
  rw [Bool.and_eq_true] at hgg
  obtain ⟨e1, e2, e3, e4, B, e5, e6, e7⟩ := hx.out g1
  subst e1 e2 e3 e4 e5
  rw [g1]
  have hAA := hA1.trans (hA2.mono hA1.size)
  have HPS := hide ((e7.grow hAA).setRow (show B ≠ w1.heap.size + 1 by obtain ⟨C, q1, _⟩ := e7; have := (Array.getElem?_eq_some_iff.mp q1).1; omega) (packOf ys l))
  have hg1 := setRow_same hg0 (packOf ys l)
  have HBX := hide (below_setRow (HB1.out.trans (hAA.mono HB1.out.size)) (w1.heap.size + 1) (by omega) (packOf ys l))
  have Q7 := keepR (keep (heap_alloc_new w1 (.cells #[.int .i64 p', .slice (some ⟨B, 0, none⟩) c' c'] 59)) hA2) (show w1.heap.size ≠ w1.heap.size + 1 by omega) (packOf ys l)
  obtain ⟨hq0, hq1⟩ := cells2 Q7
  have HQ7 := hide Q7
  have HGP := hide hgg
  clear e6 e7 hx hAA hA1 hA2 g1 hgg Q7
  go_wp2_with (first
    | refine wpList_store_row rfl 74 _ _ rfl _ _ rfl rfl 74 _ hg0 (by rw [packOf_size]; exact Try.size74) (by rw [packOf_size]; rfl) (packOf_one _ _) ?_
    | refine wpList_load_row rfl 74 _ rfl _ rfl 74 (packOf ys l) (0, 0) _ hg1 Try.underlying74 rfl (by rw [packOf_size]; exact Try.size74) ?_)
  obtain ⟨⟨hp1, hp2⟩, hlp, hyb⟩ := goodB_parts HGP.out.2
  have hfs : ∀ i, 0 ≤ fOf ys l i ∧ fOf ys l i ≤ 50 := by
    intro i; unfold fOf; split
    · exact hyb i
    · omega
  have HEQ := hide (fire_eq (t := t) HGP.out.1 HGP.out.2 HLY.out)
  have HFS := hide hfs
  obtain ⟨V, hV⟩ : ∃ V, Hid ((((w1.alloc (.cells #[.int .i64 p', .slice (some ⟨B, 0, none⟩) c' c'] 59)).alloc (.cells #[.int .u8 0, .int .u8 0, .int .u8 0, .int .u8 0, .int .u8 0, .int .u8 0, .int .u8 0, .int .u8 0, .int .u8 0, .int .u8 0, .int .u8 0, .int .u8 0, .int .u8 0, .int .u8 0, .int .u8 0, .int .u8 0] 74)).setRow (w1.heap.size + 1) (packOf ys l)) = V) := ⟨_, rfl⟩
  rw [hV.out] at HPS HBX HQ7 ⊢
  have HFI := hide (fireI_any p' t B c' c' L (fOf ys l) V HPS.out HGP.out.1 ⟨hp1, hp2⟩ hfs)
  clear hq0 hq1 hg0 hg1 hs1 hfs hyb hV
  refine HFI.out.mono ?_
  rintro e w2 ⟨h, rfl, hh, hb2⟩
  rw [HEQ.out.1] at hh ⊢
  have hA3 := below_al w2 (.cells #[.int .u8 0, .int .u8 0, .int .u8 0, .int .u8 0, .int .u8 0, .int .u8 0, .int .u8 0, .int .u8 0, .int .u8 0, .int .u8 0, .int .u8 0, .int .u8 0, .int .u8 0, .int .u8 0, .int .u8 0, .int .u8 0] 74)
  have hg0 := heap_alloc_new w2 (.cells #[.int .u8 0, .int .u8 0, .int .u8 0, .int .u8 0, .int .u8 0, .int .u8 0, .int .u8 0, .int .u8 0, .int .u8 0, .int .u8 0, .int .u8 0, .int .u8 0, .int .u8 0, .int .u8 0, .int .u8 0, .int .u8 0] 74)
  have hg1 := setRow_same hg0 (tokF h)
  have hz7 := row_lt HQ7.out
  have hz2 := hb2.size
  have hvs := HBX.out.size
  have Q8 := keepR (keep (keep HQ7.out hb2) hA3) (show w1.heap.size ≠ w2.heap.size by omega) (tokF h)
  obtain ⟨hq0, hq1⟩ := cells2 Q8
  have HB3 := hide (below_setRow ((HBX.out.trans (hb2.mono HBX.out.size)).trans (hA3.mono (by omega))) w2.heap.size (by omega) (tokF h))
  clear HFI hb2 hA3 Q8 HPS
  by_cases g : fireOk p' c' L ys t = true
  rotate_left
  · have g' : fireOk p' c' L ys t = false := by simpa using g
    have HN := hide (lend_no (w := w) g' HB3.out)
    rw [g']
    clear g g' hh
    go_wp2_with (refine wpList_store_row rfl 74 _ _ rfl _ _ rfl rfl 74 _ hg0 (by rw [tokF_size]; exact Try.size74) (by rw [tokF_size]; rfl) (tokF_one _) ?_)
    go_ret2
    exact HN.out
  have hh2 := hh.out g
  have HG := hide g
  rw [g]
  subst hh2
  have hpl : p' = (l : Int) := by have := HLY.out; omega
  subst hpl
  have hl16 : l ≤ 16 := by omega
  have HSM : Hid (∀ i, 0 ≤ partF (maskL (inOf L t)) (maskL (outOf L t)) (maskL (resOf L t)) (fOf ys l) 16 i ∧ partF (maskL (inOf L t)) (maskL (outOf L t)) (maskL (resOf L t)) (fOf ys l) 16 i ≤ 255) := by
    refine fun i => partF_small HFS.out (fun j hj => ?_) 16 i
    have hb := HEQ.out.1.trans HG.out
    unfold fireB at hb
    simp only [Bool.and_eq_true] at hb
    have := subF_iff.mp hb.1.2 j hj
    rw [posL_bit] at this
    simp only [Bool.and_eq_true, decide_eq_true_eq] at this
    exact this.2
  have HLF := hide (HEQ.out.2 HG.out)
  clear g hh
  obtain ⟨F, hF⟩ : ∃ F, Hid (partF (maskL (inOf L t)) (maskL (outOf L t)) (maskL (resOf L t)) (fOf ys l) 16 = F) := ⟨_, rfl⟩
  rw [hF.out] at hg1 hq0 hq1 HB3 HSM HLF ⊢
  go_wp2_with (first
    | refine wpList_store_row rfl 74 _ _ rfl _ _ rfl rfl 74 _ hg0 (by rw [tokF_size]; exact Try.size74) (by rw [tokF_size]; rfl) (tokF_one _) ?_
    | refine wpList_load_row rfl 74 _ rfl _ rfl 74 (tokF F) (0, 0) _ hg1 Try.underlying74 rfl (by rw [tokF_size]; exact Try.size74) ?_)
  obtain ⟨V2, hV2⟩ : ∃ V2, Hid ((w2.alloc (.cells #[.int .u8 0, .int .u8 0, .int .u8 0, .int .u8 0, .int .u8 0, .int .u8 0, .int .u8 0, .int .u8 0, .int .u8 0, .int .u8 0, .int .u8 0, .int .u8 0, .int .u8 0, .int .u8 0, .int .u8 0, .int .u8 0] 74)).setRow w2.heap.size (tokF F) = V2) := ⟨_, rfl⟩
  rw [hV2.out] at HB3 ⊢
  have HLS := hide (list_any F l V2 hl16 HSM.out)
  clear hg0 hg1 hq0 hq1 hV2
  rw [HLF.out] at HLS
  refine HLS.out.mono ?_
  rintro e w3 ⟨rfl, rfl⟩
  have HY := hide (lend_yes (w := w) (b := V2.heap.size + 1) (m := l) HG.out (by unfold firedL; rw [fireL_len]; exact HLY.out) (heap_alloc2_new V2 (.cells (tokF F) 74) (.cells (cellsOf (firedL L ys t)) 3)) (by have := HB3.out.size; omega) (HB3.out.trans ((below_two V2 (.cells (tokF F) 74) (.cells (cellsOf (firedL L ys t)) 3)).mono HB3.out.size)))
  clear HLS
  go_wp2_with fail
  go_ret2
  exact HY.out
end Go.Proofs.Ytajcmamapmeglaa


/- What FnSiphons speaks of: an empty siphon stays empty, a trap with a token keeps one. -/
namespace Go.Proofs.Ytajcmamapmeglaa
open Go.RowKit
set_option maxRecDepth 10000

/-- The tokens on the first k of some places. -/
def atS (ys xs : List Int) (k : Nat) : Int := ((xs.take k).map fun x => ys.getD x.toNat 0).sum

theorem atS_zero (ys xs : List Int) : atS ys xs 0 = 0 := rfl
theorem atS_step {ys xs : List Int} {k : Nat} {x : Int} (h : xs[k]? = some x) : atS ys xs (k + 1) = atS ys xs k + ys.getD x.toNat 0 := by
  have hk : k < xs.length := (List.getElem?_eq_some_iff.mp h).1
  have e : xs[k] = x := (List.getElem?_eq_some_iff.mp h).2
  unfold atS
  rw [List.take_succ_eq_append_getElem hk, List.map_append, List.sum_append, e]
  simp
theorem atS_bound {ys : List Int} (hy : ∀ i, 0 ≤ ys.getD i 0 ∧ ys.getD i 0 ≤ 50) (xs : List Int) (k : Nat) : 0 ≤ atS ys xs k ∧ atS ys xs k ≤ 50 * k := by
  induction k with
  | zero => rw [atS_zero]; omega
  | succ k ih =>
    cases h : xs[k]? with
    | none =>
      have hk : xs.length ≤ k := List.getElem?_eq_none_iff.mp h
      have e : atS ys xs (k + 1) = atS ys xs k := by unfold atS; rw [List.take_of_length_le (by omega), List.take_of_length_le hk]
      rw [e]; omega
    | some x => rw [atS_step h]; have := hy x.toNat; omega

theorem sum_zero {ys : List Int} {xs : List Int} (h : ∀ x ∈ xs, ys.getD x.toNat 0 = 0) : (xs.map fun x => ys.getD x.toNat 0).sum = 0 := by
  induction xs with
  | nil => rfl
  | cons x xs ih =>
    rw [List.map_cons, List.sum_cons, h x (by simp), ih fun y hm => h y (by simp [hm])]; rfl

theorem sum_nonneg {ys : List Int} (hy : ∀ i, 0 ≤ ys.getD i 0) (xs : List Int) : 0 ≤ (xs.map fun x => ys.getD x.toNat 0).sum := by
  induction xs with
  | nil => exact Int.le_refl _
  | cons x xs ih => rw [List.map_cons, List.sum_cons]; have := hy x.toNat; omega

theorem sum_pos {ys : List Int} (hy : ∀ i, 0 ≤ ys.getD i 0) {xs : List Int} {x : Int} (hx : x ∈ xs) : ys.getD x.toNat 0 ≤ (xs.map fun x => ys.getD x.toNat 0).sum := by
  induction xs with
  | nil => cases hx
  | cons z xs ih =>
    rw [List.map_cons, List.sum_cons]
    rcases List.mem_cons.mp hx with rfl | h
    · have := sum_nonneg hy xs; omega
    · have := ih h; have := hy z.toNat; omega

theorem sum_some {ys : List Int} {xs : List Int} (h : 0 < (xs.map fun x => ys.getD x.toNat 0).sum) : ∃ x ∈ xs, 0 < ys.getD x.toNat 0 := by
  induction xs with
  | nil => simp at h
  | cons z xs ih =>
    rw [List.map_cons, List.sum_cons] at h
    by_cases hz : 0 < ys.getD z.toNat 0
    · exact ⟨z, by simp, hz⟩
    · obtain ⟨x, hx, h1⟩ := ih (by omega)
      exact ⟨x, by simp [hx], h1⟩

theorem atS_all (ys xs : List Int) : atS ys xs xs.length = (xs.map fun x => ys.getD x.toNat 0).sum := by unfold atS; rw [List.take_length]

theorem andS_zero_bit {s r : Nat} : s &&& r = 0 ↔ ∀ i, s.testBit i = true → r.testBit i = false := by
  constructor
  · intro h i hi
    have := congrArg (·.testBit i) h
    simp only [Nat.testBit_and, hi, Nat.zero_testBit, Bool.true_and] at this
    exact this
  · intro h
    apply Nat.eq_of_testBit_eq; intro i
    rw [Nat.testBit_and, Nat.zero_testBit]
    cases hs : s.testBit i
    · rfl
    · rw [h i hs]; rfl

theorem andS_not_zero {s r : Nat} (h : s &&& r ≠ 0) : ∃ i, s.testBit i = true ∧ r.testBit i = true := by
  rcases Classical.em (∃ i, s.testBit i = true ∧ r.testBit i = true) with h1 | h1
  · exact h1
  · refine absurd (andS_zero_bit.mpr fun i hi => ?_) h
    cases hr : r.testBit i
    · rfl
    · exact absurd ⟨i, hi, hr⟩ h1

/-- What a firing of a net without resets does to a place. -/
theorem fired_at {p : Int} {n : Nat} {L : List (List Int)} {us : List Int} {t : Int} (hpl : plainB p n L = true) (h : fireOk p n L us t = true) (i : Nat) :
    (firedL L us t).getD i 0 = (us.getD i 0 - (if (i : Int) ∈ inOf L t then 1 else 0)) + (if (i : Int) ∈ outOf L t then 1 else 0) := by
  unfold fireOk at h
  simp only [Bool.and_eq_true] at h
  have ht : 0 ≤ t ∧ t < (n : Int) := by
    have ht := h.1.1.2
    unfold inB at ht
    simp only [Bool.and_eq_true, decide_eq_true_eq] at ht
    omega
  have htri := tri_rise (triOkOf (i := t.toNat) h.1.1.1.1 (by omega))
  obtain ⟨hp, hl, _⟩ := goodB_parts h.1.1.1.2
  have hin : riseB (inOf L t) 0 (p - 1) = true := htri.1
  have hout : riseB (outOf L t) 0 (p - 1) = true := htri.2.1
  have hr : resOf L t = [] := by
    unfold plainB at hpl
    rw [Bool.and_eq_true] at hpl
    have h2 := hpl.2
    cases hq : L.getD (3 * t.toNat + 2) [] with
    | nil => exact hq
    | cons a l =>
      rw [resB_yes (k := t.toNat) (by omega) (by rw [hq]; simp)] at h2
      cases h2
  unfold firedL fireL
  rw [hr, updL_at _ _ (p - 1) hout (by rw [updL_len, updL_len]; omega)]
  have e : updL (fun _ => 0) [] (updL (· - 1) (inOf L t) us) = updL (· - 1) (inOf L t) us := rfl
  rw [e, updL_at _ _ (p - 1) hin (by omega)]
  show (if (i : Int) ∈ outOf L t then _ else _) = _
  (repeat' split) <;> omega

theorem can_mark {p : Int} {n : Nat} {L : List (List Int)} {us : List Int} {t : Int} (h : fireOk p n L us t = true) {i : Nat} (hi : (i : Int) ∈ inOf L t) : 0 < us.getD i 0 := by
  unfold fireOk at h
  simp only [Bool.and_eq_true] at h
  have hc := h.1.2
  have hg := (goodB_parts h.1.1.1.2).2.2 i
  unfold canB at hc
  rw [List.all_eq_true] at hc
  have := hc _ hi
  rw [Int.toNat_natCast] at this
  simp only [Bool.not_eq_true', decide_eq_false_iff_not] at this
  omega

theorem mem_bit {p : Int} {xs : List Int} (h : riseB xs 0 (p - 1) = true) (i : Nat) : (maskL xs).testBit i = true ↔ (i : Int) ∈ xs := by
  rw [maskL_bit _ _ (fun z hz => (riseB_mem h z hz).1)]
  simp

section
variable {p : Int} {n : Nat} {L : List (List Int)} {us zs : List Int} {k : Nat} (hok : ssOk p n L zs = true) (hk : k < n) (h : fireOk p n L us (k : Int) = true)
include hk

/-- What a step may do to a set that does not slip. -/
theorem slip_facts {b : Bool} (hs : slips b (maskL zs) n L = false) : sideB b (maskL (inOf L (k : Int))) (maskL (outOf L (k : Int))) &&& maskL zs = 0 ∨ sideB (!b) (maskL (inOf L (k : Int))) (maskL (outOf L (k : Int))) &&& maskL zs ≠ 0 := by
  have h1 : slipAt b (maskL zs) k L = false := by
    cases e : slipAt b (maskL zs) k L
    · rfl
    · rw [slips_yes hk e] at hs; cases hs
  unfold slipAt slipB at h1
  unfold inOf outOf
  rw [Int.toNat_natCast]
  simp only [Bool.and_eq_false_imp, Bool.not_eq_true', decide_eq_false_iff_not] at h1
  by_cases h2 : sideB b (maskL (L.getD (3 * k) [])) (maskL (L.getD (3 * k + 1) [])) &&& maskL zs = 0
  · exact .inl h2
  · exact .inr (h1 h2)

include hok h

theorem siphon_stays (hs : slips true (maskL zs) n L = false) (h0 : atS us zs zs.length = 0) : atS (firedL L us (k : Int)) zs zs.length = 0 := by
  have hp := hok
  unfold ssOk at hp
  rw [Bool.and_eq_true] at hp
  have h' := h
  unfold fireOk at h'
  simp only [Bool.and_eq_true] at h'
  have hu := (goodB_parts h'.1.1.1.2).2.2
  have htri := tri_rise (triOkOf (i := k) h'.1.1.1.1 hk)
  have hin : riseB (inOf L (k : Int)) 0 (p - 1) = true := htri.1
  have hout : riseB (outOf L (k : Int)) 0 (p - 1) = true := htri.2.1
  rw [atS_all] at h0
  have hno : ∀ i : Nat, (i : Int) ∈ zs → us.getD i 0 = 0 := fun i hi => by
    have h1 := sum_pos (fun i => (hu i).1) hi
    rw [Int.toNat_natCast] at h1
    have := (hu i).1
    omega
  have hni : ∀ i : Nat, (i : Int) ∈ zs → ¬ (i : Int) ∈ inOf L (k : Int) := fun i hi hm => by
    have := can_mark h hm
    have := hno i hi
    omega
  have hno2 : ∀ i : Nat, (i : Int) ∈ zs → ¬ (i : Int) ∈ outOf L (k : Int) := by
    rcases slip_facts hk hs with h1 | h1
    · intro i hi hm
      have h1' : maskL (outOf L (k : Int)) &&& maskL zs = 0 := h1
      have h2 := andS_zero_bit.mp h1' i ((mem_bit hout i).mpr hm)
      rw [(mem_bit hp.2 i).mpr hi] at h2
      cases h2
    · have h1' : maskL (inOf L (k : Int)) &&& maskL zs ≠ 0 := h1
      obtain ⟨i, h2, h3⟩ := andS_not_zero h1'
      exact absurd ((mem_bit hin i).mp h2) (hni i ((mem_bit hp.2 i).mp h3))
  rw [atS_all]
  refine sum_zero fun x hx => ?_
  have hx0 := (riseB_mem hp.2 x hx).1
  obtain ⟨i, rfl⟩ : ∃ i : Nat, x = (i : Int) := ⟨x.toNat, by omega⟩
  rw [Int.toNat_natCast, fired_at hp.1 h i, if_neg (hni i hx), if_neg (hno2 i hx), hno i hx]
  rfl

theorem trap_keeps (hs : slips false (maskL zs) n L = false) (h0 : 0 < atS us zs zs.length) : 0 < atS (firedL L us (k : Int)) zs zs.length := by
  have hp := hok
  unfold ssOk at hp
  rw [Bool.and_eq_true] at hp
  have h' := h
  unfold fireOk at h'
  simp only [Bool.and_eq_true] at h'
  have hu := (goodB_parts h'.1.1.1.2).2.2
  have hz := (goodB_parts h'.2).2.2
  have htri := tri_rise (triOkOf (i := k) h'.1.1.1.1 hk)
  have hin : riseB (inOf L (k : Int)) 0 (p - 1) = true := htri.1
  have hout : riseB (outOf L (k : Int)) 0 (p - 1) = true := htri.2.1
  rw [atS_all] at h0 ⊢
  have fin : ∀ i : Nat, (i : Int) ∈ zs → 0 < (firedL L us (k : Int)).getD i 0 → 0 < (zs.map fun x => (firedL L us (k : Int)).getD x.toNat 0).sum := fun i hi hp => by
    have h1 := sum_pos (ys := firedL L us (k : Int)) (fun i => (hz i).1) hi
    rw [Int.toNat_natCast] at h1
    omega
  rcases slip_facts hk hs with h1 | h1
  · have h1' : maskL (inOf L (k : Int)) &&& maskL zs = 0 := h1
    obtain ⟨x, hx, hpos⟩ := sum_some h0
    have hx0 := (riseB_mem hp.2 x hx).1
    obtain ⟨i, rfl⟩ : ∃ i : Nat, x = (i : Int) := ⟨x.toNat, by omega⟩
    rw [Int.toNat_natCast] at hpos
    refine fin i hx ?_
    have hni : ¬ (i : Int) ∈ inOf L (k : Int) := fun hm => by
      have h2 := andS_zero_bit.mp h1' i ((mem_bit hin i).mpr hm)
      rw [(mem_bit hp.2 i).mpr hx] at h2
      cases h2
    rw [fired_at hp.1 h i, if_neg hni]
    split <;> omega
  · have h1' : maskL (outOf L (k : Int)) &&& maskL zs ≠ 0 := h1
    obtain ⟨i, h2, h3⟩ := andS_not_zero h1'
    have hm := (mem_bit hout i).mp h2
    refine fin i ((mem_bit hp.2 i).mp h3) ?_
    rw [fired_at hp.1 h i, if_pos hm]
    by_cases hi : (i : Int) ∈ inOf L (k : Int)
    · have := can_mark h hi
      rw [if_pos hi]; omega
    · have := (hu i).1
      rw [if_neg hi]; omega
end

theorem bgZ_one {b : Bool} {p : Int} {n : Nat} {L : List (List Int)} {xs zs ys : List Int} (h1 : bgZ b p n L xs zs) (h2 : bgZ b p n L xs ys) : ys = zs := by
  cases hok : ssOk p n L xs
  · rw [h1.2 hok, h2.2 hok]
  · obtain ⟨r, _, hg, rfl⟩ := h1.1 hok
    obtain ⟨r', _, hg', rfl⟩ := h2.1 hok
    rw [hg.unique hg']

theorem bgZ_len {b : Bool} {p : Int} {n : Nat} {L : List (List Int)} {xs zs : List Int} (h1 : bgZ b p n L xs zs) : zs.length ≤ 16 := by
  cases hok : ssOk p n L xs
  · rw [h1.2 hok]; simp
  · obtain ⟨r, _, hg, rfl⟩ := h1.1 hok
    exact nums_len _ _

/-- The greatest such set within a set. -/
theorem bg_facts {b : Bool} {p : Int} {n : Nat} {L : List (List Int)} {xs zs : List Int} (hok : ssOk p n L xs = true) (h : bgZ b p n L xs zs) :
    ssOk p n L zs = true ∧ slips b (maskL zs) n L = false ∧ withB zs xs = true ∧ (!slips b (maskL xs) n L) = sameB zs xs := by
  obtain ⟨r, hr16, ⟨hrs, hsl, hmax⟩, rfl⟩ := h.1 hok
  obtain ⟨_, hp1, hp2, hri⟩ := ss_parts hok
  have hmk := mask_nums r hr16
  have hbit := within_bit.mp hrs
  have hrP : r < 2 ^ p.toNat := by
    apply Nat.lt_pow_two_of_testBit
    intro i hi
    cases hb : r.testBit i
    · rfl
    · have h1 := (mem_bit hri i).mp (hbit i hb)
      have := riseB_mem hri _ h1
      omega
  have hrise : riseB (nums2 r.testBit 16) 0 (p - 1) = true := by
    have := nums_rise hrP
    rwa [Int.toNat_of_nonneg (by omega)] at this
  refine ⟨?_, by rw [hmk]; exact hsl, ?_, ?_⟩
  · unfold ssOk at hok ⊢
    rw [Bool.and_eq_true] at hok
    rw [hok.1, hrise]; rfl
  · unfold withB
    rw [List.all_eq_true]
    intro x hx
    have hx0 := (riseB_mem hrise x hx).1
    obtain ⟨i, rfl⟩ : ∃ i : Nat, x = (i : Int) := ⟨x.toNat, by omega⟩
    have h1 := (mem_bit hrise i).mpr hx
    rw [hmk] at h1
    have h2 := (mem_bit hri i).mp (hbit i h1)
    unfold hasB
    simpa using h2
  · rw [Bool.eq_iff_iff]
    unfold sameB
    rw [decide_eq_true_eq, Bool.not_eq_true']
    constructor
    · intro h1
      have h2 := hmax _ (Nat.and_self _) h1
      rw [Nat.and_comm, hrs] at h2
      rw [h2]
      exact nums2_mask hp2 hri
    · intro h1
      rw [← h1, hmk]
      exact hsl

theorem fire_goods {p : Int} {n : Nat} {L : List (List Int)} {us : List Int} {t : Int} (h : fireOk p n L us t = true) : (∀ i, 0 ≤ us.getD i 0 ∧ us.getD i 0 ≤ 50) ∧ (∀ i, 0 ≤ (firedL L us t).getD i 0 ∧ (firedL L us t).getD i 0 ≤ 50) ∧ (firedL L us t).length = us.length := by
  unfold fireOk at h
  simp only [Bool.and_eq_true] at h
  exact ⟨(goodB_parts h.1.1.1.2).2.2, (goodB_parts h.2).2.2, by unfold firedL; exact fireL_len _ _ _ _⟩

theorem bitB_i64 (z j : Nat) (hz : z < 1000003) : 0 ≤ bits .and .i64 ((z : Int) / 2 ^ (2 * j)) 1 ∧ bits .and .i64 ((z : Int) / 2 ^ (2 * j)) 1 ≤ 1 := by
  have e : ((z : Int) / 2 ^ (2 * j)) = ((z / 2 ^ (2 * j) : Nat) : Int) := by rw [Int.natCast_ediv, Int.natCast_pow]; rfl
  have h1 : z / 2 ^ (2 * j) < 2 ^ 62 := Nat.lt_of_le_of_lt (Nat.div_le_self _ _) (by omega)
  have h2 := and_i64 (z / 2 ^ (2 * j)) 1 h1 (by decide)
  rw [e, show (1 : Int) = ((1 : Nat) : Int) from rfl, h2, Nat.and_one_is_mod]
  omega
end Go.Proofs.Ytajcmamapmeglaa


/- FireAll: one firing behind the other; the specification's FireAll, for every net, mark and list of numbers in memory. -/
namespace Go.Proofs.Ytajcmamapmeglaa
open Go.RowKit
set_option maxRecDepth 10000

/-- The mark behind the last firing that tells true, and how many do. -/
def runL (p : Int) (n : Nat) (L : List (List Int)) : List Int → List Int → List Int
  | ys, [] => ys
  | ys, t :: ts => if fireOk p n L ys t then runL p n L (firedL L ys t) ts else ys
def runN (p : Int) (n : Nat) (L : List (List Int)) : List Int → List Int → Nat
  | _, [] => 0
  | ys, t :: ts => if fireOk p n L ys t then runN p n L (firedL L ys t) ts + 1 else 0

def allOk (p : Int) (n : Nat) (L : List (List Int)) (ys ts : List Int) : Bool := netOk p n L && goodB p ys && decide (ts.length ≤ 60) && allB ts 0 ((n : Int) - 1)
def faR (p : Int) (n : Nat) (L : List (List Int)) (ys ts : List Int) : List Int := if allOk p n L ys ts then runL p n L ys ts else []
def faN (p : Int) (n : Nat) (L : List (List Int)) (ys ts : List Int) : Nat := if allOk p n L ys ts then runN p n L ys ts else 0

/-- k firings told true, and the mark behind them is us. -/
structure Ran (p : Int) (n : Nat) (L : List (List Int)) (ys ts : List Int) (k : Nat) (us : List Int) : Prop where
  l : runL p n L ys ts = runL p n L us (ts.drop k)
  m : runN p n L ys ts = k + runN p n L us (ts.drop k)
  good : goodB p us = true
  len : us.length = ys.length

theorem firedL_len (L : List (List Int)) (ys : List Int) (t : Int) : (firedL L ys t).length = ys.length := by unfold firedL fireL; rw [updL_len, updL_len, updL_len]

theorem fireOk_good {p : Int} {n : Nat} {L : List (List Int)} {ys : List Int} {t : Int} (h : fireOk p n L ys t = true) : goodB p (firedL L ys t) = true := by
  unfold fireOk at h; simp only [Bool.and_eq_true] at h; exact h.2

theorem Ran.start {p : Int} {n : Nat} {L : List (List Int)} {ys ts : List Int} (h : goodB p ys = true) : Ran p n L ys ts 0 ys := ⟨rfl, by simp, h, rfl⟩

theorem dropF_at {ts : List Int} {k : Nat} {t : Int} (h : ts[k]? = some t) : ts.drop k = t :: ts.drop (k + 1) := by
  have hk := (List.getElem?_eq_some_iff.mp h).1
  rw [List.drop_eq_getElem_cons hk]
  congr 1
  rw [List.getElem?_eq_getElem hk] at h
  exact Option.some.inj h

theorem Ran.step {p : Int} {n : Nat} {L : List (List Int)} {ys ts us : List Int} {k : Nat} {t : Int} (h : Ran p n L ys ts k us) (hx : ts[k]? = some t) (hf : fireOk p n L us t = true) : Ran p n L ys ts (k + 1) (firedL L us t) := by
  have e := dropF_at hx
  refine ⟨?_, ?_, fireOk_good hf, (firedL_len _ _ _).trans h.len⟩
  · rw [h.l, e]; simp only [runL]; rw [if_pos hf]
  · rw [h.m, e]; simp only [runN]; rw [if_pos hf]; omega

theorem Ran.stop {p : Int} {n : Nat} {L : List (List Int)} {ys ts us : List Int} {k : Nat} {t : Int} (h : Ran p n L ys ts k us) (hx : ts[k]? = some t) (hf : fireOk p n L us t = false) : runL p n L ys ts = us ∧ runN p n L ys ts = k := by
  have e := dropF_at hx
  refine ⟨?_, ?_⟩
  · rw [h.l, e]; simp only [runL]; rw [hf]; rfl
  · rw [h.m, e]; simp only [runN]; rw [hf]; rfl

theorem Ran.done {p : Int} {n : Nat} {L : List (List Int)} {ys ts us : List Int} {k : Nat} (h : Ran p n L ys ts k us) (hk : ts.length = k) : runL p n L ys ts = us ∧ runN p n L ys ts = k := by
  have e : ts.drop k = [] := List.drop_eq_nil_of_le (by omega)
  exact ⟨by rw [h.l, e]; rfl, by rw [h.m, e]; rfl⟩

/-- A list, a number and a bool; nothing that was there is written. -/
def AEnd (g : Bool) (r : List Int) (m : Nat) (w : World) (e : Ending) (w' : World) : Prop := ∃ a n c, e = .returned (.tuple #[.slice a n c, .int .i64 (m : Int), .bool g]) ∧ Row w' a n r ∧ Below w.heap.size w w'

theorem aend_no {p : Int} {n : Nat} {L : List (List Int)} {ys ts : List Int} {w w' : World} (h : allOk p n L ys ts = false) (hb : Below w.heap.size w w') : AEnd (allOk p n L ys ts) (faR p n L ys ts) (faN p n L ys ts) w (.returned (.tuple #[.slice none 0 0, .int .i64 0, .bool false])) w' := by
  refine ⟨none, 0, 0, ?_, ⟨?_, .inl rfl⟩, hb⟩
  · unfold faN; rw [h]; rfl
  · unfold faR; rw [h]; rfl

theorem aend_yes {p : Int} {n : Nat} {L : List (List Int)} {ys ts us : List Int} {k : Nat} {w w' : World} {a : Option Addr} {m c : Nat} (h : allOk p n L ys ts = true) (hh : runL p n L ys ts = us ∧ runN p n L ys ts = k) (hr : Row w' a m us) (hb : Below w.heap.size w w') :
    AEnd (allOk p n L ys ts) (faR p n L ys ts) (faN p n L ys ts) w (.returned (.tuple #[.slice a m c, .int .i64 (k : Int), .bool true])) w' := by
  refine ⟨a, m, c, ?_, ?_, hb⟩
  · unfold faN; rw [h, if_pos rfl, hh.2]
  · unfold faR; rw [h, if_pos rfl, hh.1]; exact hr

theorem allOk_no1 {p : Int} {n : Nat} {L : List (List Int)} {ys ts : List Int} (h : (netOk p n L && goodB p ys) = false) : allOk p n L ys ts = false := by unfold allOk; rw [h]; rfl
theorem allOk_no2 {p : Int} {n : Nat} {L : List (List Int)} {ys ts : List Int} (h : ¬ ts.length ≤ 60) : allOk p n L ys ts = false := by unfold allOk; simp [h]
theorem allOk_no3 {p : Int} {n : Nat} {L : List (List Int)} {ys ts : List Int} (h : allB ts 0 ((n : Int) - 1) = false) : allOk p n L ys ts = false := by unfold allOk; rw [h]; simp
theorem allOk_yes {p : Int} {n : Nat} {L : List (List Int)} {ys ts : List Int} (h : (netOk p n L && goodB p ys) = true) (h2 : ts.length ≤ 60) (h3 : allB ts 0 ((n : Int) - 1) = true) : allOk p n L ys ts = true := by
  unfold allOk; rw [h, h3]; simp [h2]

end Go.Proofs.Ytajcmamapmeglaa


/- What FnKeptAll speaks of: small sets are invariants of ones, none lies within another; where all places are kept no place ever holds more than there was in all. -/
namespace Go.Proofs.Ytajcmamapmeglaa
open Go.RowKit
set_option maxRecDepth 10000

theorem smallN_say {f : Nat → Bool} {k s : Nat} (h : s ∈ smallN f k) : f s = true := by
  induction k with
  | zero => cases h
  | succ k ih =>
    cases h1 : f (k + 1)
    · rw [smallN_no1 h1] at h; exact ih h
    · cases h2 : (smallN f k).any (fun r => decide (r &&& (k + 1) = r))
      · rw [smallN_yes h1 h2] at h
        rcases List.mem_append.mp h with h | h
        · exact ih h
        · simp at h; subst h; exact h1
      · rw [smallN_no2 h2] at h; exact ih h

theorem smallN_anti {f : Nat → Bool} {k r s : Nat} (hr : r ∈ smallN f k) (hs : s ∈ smallN f k) (h : r &&& s = r) : r = s := by
  induction k with
  | zero => cases hr
  | succ k ih =>
    cases h1 : f (k + 1)
    · rw [smallN_no1 h1] at hr hs; exact ih hr hs
    · cases h2 : (smallN f k).any (fun r => decide (r &&& (k + 1) = r))
      · rw [smallN_yes h1 h2] at hr hs
        rcases List.mem_append.mp hr with hr | hr <;> rcases List.mem_append.mp hs with hs | hs
        · exact ih hr hs
        · simp at hs; subst hs
          rw [List.any_eq_false] at h2
          exact absurd (by simpa using h) (h2 r hr)
        · simp at hr; subst hr
          have h3 : (k + 1) &&& s ≤ s := Nat.and_le_right
          rw [h] at h3
          have := (smallN_mem hs).2
          omega
        · simp at hr hs; omega
      · rw [smallN_no2 h2] at hr hs; exact ih hr hs

theorem smallN_rise (f : Nat → Bool) (k : Nat) : (smallN f k).Pairwise (· < ·) := by
  induction k with
  | zero => exact List.Pairwise.nil
  | succ k ih =>
    cases h1 : f (k + 1)
    · rw [smallN_no1 h1]; exact ih
    · cases h2 : (smallN f k).any (fun r => decide (r &&& (k + 1) = r))
      · rw [smallN_yes h1 h2, List.pairwise_append]
        refine ⟨ih, by simp, fun a ha b hb => ?_⟩
        simp at hb
        have := (smallN_mem ha).2
        omega
      · rw [smallN_no2 h2]; exact ih

theorem rise_one {l : List Nat} (h : l.Pairwise (· < ·)) {i j r : Nat} (hi : l[i]? = some r) (hj : l[j]? = some r) : i = j := by
  obtain ⟨hi1, hi2⟩ := List.getElem?_eq_some_iff.mp hi
  obtain ⟨hj1, hj2⟩ := List.getElem?_eq_some_iff.mp hj
  rw [List.pairwise_iff_getElem] at h
  rcases Nat.lt_trichotomy i j with hlt | he | hgt
  · have := h i j hi1 hj1 hlt; omega
  · exact he
  · have := h j i hj1 hi1 hgt; omega

theorem si_set {P n : Nat} {L : List (List Int)} {s : Nat} (hok : siOk (P : Int) n L = true) (h : s ∈ siN (P : Int) n L) : 1 ≤ s ∧ s < 2 ^ P ∧ invB (rowB s P) n L = true := by
  unfold siN at h
  rw [if_pos hok, Int.toNat_natCast] at h
  have h1 := smallN_mem h
  have h2 : 0 < 2 ^ P := Nat.two_pow_pos P
  exact ⟨h1.1, by omega, smallN_say h⟩

theorem si_two {P n : Nat} {L : List (List Int)} {i j r s : Nat} (hok : siOk (P : Int) n L = true) (hi : (siN (P : Int) n L)[i]? = some r) (hj : (siN (P : Int) n L)[j]? = some s) (hne : i ≠ j) : withB (nums2 r.testBit 16) (nums2 s.testBit 16) = false := by
  have hP := (si_parts hok).2.2
  have hr := si_set hok (List.mem_of_getElem? hi)
  have hs := si_set hok (List.mem_of_getElem? hj)
  have e1 : siN (P : Int) n L = smallN (fun s => invB (rowB s P) n L) (2 ^ P - 1) := by unfold siN; rw [if_pos hok, Int.toNat_natCast]
  have h16 : (2 : Nat) ^ P ≤ 2 ^ 16 := Nat.pow_le_pow_right (by omega) (by omega)
  cases hw : withB (nums2 r.testBit 16) (nums2 s.testBit 16)
  · rfl
  · have hrs : r &&& s = r := by
      rw [within_bit]
      intro b hb
      have hb16 : b < 16 := by
        apply Classical.byContradiction
        intro hn
        rw [Nat.testBit_lt_two_pow (Nat.lt_of_lt_of_le hr.2.1 (Nat.le_trans h16 (Nat.pow_le_pow_right (by omega) (by omega))))] at hb
        cases hb
      unfold withB at hw
      rw [List.all_eq_true] at hw
      have hm : ((b : Nat) : Int) ∈ nums2 r.testBit 16 := by unfold nums2; simp; exact ⟨b, ⟨hb16, hb⟩, rfl⟩
      have h2 := hw _ hm
      unfold hasB at h2
      have h3 : ((b : Nat) : Int) ∈ nums2 s.testBit 16 := by simpa using h2
      unfold nums2 at h3
      simp at h3
      obtain ⟨c, ⟨_, hc⟩, hcb⟩ := h3
      have : c = b := by omega
      subst this; exact hc
    have hmr := List.mem_of_getElem? hi
    have hms := List.mem_of_getElem? hj
    rw [e1] at hmr hms
    have he := smallN_anti hmr hms hrs
    subst he
    rw [e1] at hi hj
    exact absurd (rise_one (smallN_rise _ _) hi hj) hne

/-- The tokens on the places of a set. -/
def onS (s P : Nat) (us : List Int) : Int := sumF (fun j => if s.testBit j then us.getD j 0 else 0) P

theorem sumF_three {f g h : Nat → Int} {n : Nat} : sumF (fun i => f i - g i + h i) n = sumF f n - sumF g n + sumF h n := by
  induction n with
  | zero => rfl
  | succ k ih => simp only [sumF]; rw [ih]; omega

theorem onS_fire {P n : Nat} {L : List (List Int)} {us : List Int} {t : Int} {s : Nat} (hpl : plainB (P : Int) n L = true) (h : fireOk (P : Int) n L us t = true) (hs : invB (rowB s P) n L = true) : onS s P (firedL L us t) = onS s P us := by
  have hf := fired_at hpl h
  unfold fireOk at h
  simp only [Bool.and_eq_true] at h
  have ht : 0 ≤ t ∧ t < (n : Int) := by
    have ht := h.1.1.2
    unfold inB at ht
    simp only [Bool.and_eq_true, decide_eq_true_eq] at ht
    omega
  have htri := tri_rise (triOkOf (i := t.toNat) h.1.1.1.1 (by omega))
  have hin : riseB (inOf L t) 0 ((P : Int) - 1) = true := htri.1
  have hout : riseB (outOf L t) 0 ((P : Int) - 1) = true := htri.2.1
  unfold invB at hs
  rw [List.all_eq_true] at hs
  have hq : sumW (rowB s P) (inOf L t) = sumW (rowB s P) (outOf L t) := by
    have := hs t.toNat (by simp; omega)
    simpa [inOf, outOf] using this
  rw [← sumW_in (P := P) hin, ← sumW_in (P := P) hout] at hq
  have e : onS s P (firedL L us t) = sumF (fun j => (if s.testBit j then us.getD j 0 else 0) - (if (j : Int) ∈ inOf L t then 1 else 0) * (rowB s P).getD j 0 + (if (j : Int) ∈ outOf L t then 1 else 0) * (rowB s P).getD j 0) P := by
    unfold onS
    refine sumF_congr fun j hj => ?_
    rw [hf j, show (rowB s P).getD j 0 = if s.testBit j then 1 else 0 from listF_at _ _ _ hj]
    cases s.testBit j <;> (repeat' split) <;> simp_all
  rw [e, sumF_three, hq]
  unfold onS
  omega

theorem onS_run {P n : Nat} {L : List (List Int)} {s : Nat} (hpl : plainB (P : Int) n L = true) (hs : invB (rowB s P) n L = true) (ts us : List Int) (hg : ∀ i, 0 ≤ us.getD i 0 ∧ us.getD i 0 ≤ 50) : onS s P (runL (P : Int) n L us ts) = onS s P us ∧ ∀ i, 0 ≤ (runL (P : Int) n L us ts).getD i 0 ∧ (runL (P : Int) n L us ts).getD i 0 ≤ 50 := by
  induction ts generalizing us with
  | nil => exact ⟨rfl, hg⟩
  | cons t ts ih =>
    cases hf : fireOk (P : Int) n L us t
    · simp only [runL, hf]; exact ⟨rfl, hg⟩
    · simp only [runL, hf, if_true]
      obtain ⟨h1, h2⟩ := ih (firedL L us t) (fire_goods hf).2.1
      exact ⟨by rw [h1, onS_fire hpl hf hs], h2⟩

theorem sumF_mono {f g : Nat → Int} {n : Nat} (h : ∀ i, i < n → f i ≤ g i) : sumF f n ≤ sumF g n := by
  induction n with
  | zero => exact Int.le_refl _
  | succ k ih => simp only [sumF]; have := ih fun i hi => h i (by omega); have := h k (by omega); omega

theorem sumF_one {f : Nat → Int} {n i : Nat} (h : ∀ i, 0 ≤ f i) (hi : i < n) : f i ≤ sumF f n := by
  induction n with
  | zero => omega
  | succ k ih =>
    simp only [sumF]
    have h0 : ∀ m, 0 ≤ sumF f m := fun m => by
      induction m with
      | zero => exact Int.le_refl _
      | succ m ih2 => simp only [sumF]; have := h m; omega
    by_cases e : i = k
    · subst e; have := h0 i; omega
    · have := ih (by omega); have := h k; omega

/-- Where all places are kept, no place ever holds more than there was in all. -/
theorem kept_bound {P n : Nat} {L : List (List Int)} (hk : ikR (P : Int) n L = true) (ts us : List Int) (hg : ∀ i, 0 ≤ us.getD i 0 ∧ us.getD i 0 ≤ 50) {i : Nat} (hi : i < P) : (runL (P : Int) n L us ts).getD i 0 ≤ sumF (fun j => us.getD j 0) P := by
  unfold ikR at hk
  rw [Bool.and_eq_true, decide_eq_true_eq, Int.toNat_natCast] at hk
  have hpl : plainB (P : Int) n L = true := by
    have h := hk.1
    unfold siOk at h
    rw [Bool.and_eq_true] at h
    exact h.1
  have hb : (unionN (siN (P : Int) n L)).testBit i = true := by
    rw [hk.2, Nat.testBit_two_pow_sub_one]; simpa using hi
  rw [unionN_bit, List.any_eq_true] at hb
  obtain ⟨s, hs, hsi⟩ := hb
  obtain ⟨_, _, hinv⟩ := si_set hk.1 hs
  obtain ⟨h1, h2⟩ := onS_run hpl hinv ts us hg
  have h3 : (runL (P : Int) n L us ts).getD i 0 ≤ onS s P (runL (P : Int) n L us ts) := by
    have h := sumF_one (f := fun j => if s.testBit j then (runL (P : Int) n L us ts).getD j 0 else 0) (n := P) (i := i) (fun j => by show 0 ≤ ite _ _ _; split; exact (h2 j).1; exact Int.le_refl _) hi
    simp only [hsi, if_true] at h
    exact h
  have h4 : onS s P us ≤ sumF (fun j => us.getD j 0) P := sumF_mono fun j _ => by
    show ite _ _ _ ≤ _
    split
    · exact Int.le_refl _
    · exact (hg j).1
  omega
end Go.Proofs.Ytajcmamapmeglaa


/- SmallInvariants of the program. -/
namespace Go.Proofs.Ytajcmamapmeglaa
open Go.RowKit
set_option maxRecDepth 10000

/-- How the program's SmallInvariants ends. -/
def SimEnd (p : Int) (n : Nat) (L : List (List Int)) (w : World) (e : Ending) (w' : World) : Prop :=
  ∃ B m lo, e = .returned (.tuple #[.slice (some ⟨B, 0, none⟩) m m, .bool (siOk p n L)]) ∧ m = (siN p n L).length ∧ PartG w' B lo w'.heap.size m 27 (fun j => (listsN (siN p n L)).getD j []) ∧ w.heap.size ≤ B ∧ w.heap.size ≤ lo ∧ lo ≤ w'.heap.size ∧ Below w.heap.size w w'

set_option maxHeartbeats 400000 in
theorem smallI_any (p : Int) (a : Option Addr) (n c : Nat) (L : List (List Int)) (w : World) (h : Lists w a (3 * n) L) (hs : sizeN n L ≤ 1048576) :
    Calls Try.prog 24 #[.agg #[.int .i64 p, .slice a n c]] w fun e w' => SimEnd p n L w e w' := by
  have hAl := below_al w (.cells #[.int .i64 p, .slice a n c] 26)
  have HT := hide (smallInvI_any p a n c L _ (h.below hAl) hs)
  have HB0 := hide hAl
  clear h hAl
  go_enter Try.func24, Try.ntmps24
  go_wp2_with fail
  refine HT.out.mono ?_
  rintro e w1 ⟨v, m, p', a', m', c', rfl, hown, hpe, hb⟩
  rw [soN_si] at hown
  have HB1 := hide (HB0.out.trans (hb.mono HB0.out.size))
  have hA1 := below_al w1 (.cells #[.int .i64 p', .slice a' m' c'] 59)
  have HB2 := hide (HB1.out.trans (hA1.mono HB1.out.size))
  have HO2 := hide (own_growK hown hA1)
  obtain ⟨l, hl⟩ : ∃ l, Hid (siN p n L = l) := ⟨_, rfl⟩
  have hml : m = l.length := by have := hown.1; rw [encS_len, hl.out] at this; omega
  have hm : m ≤ 1024 := by rw [hml, ← hl.out]; exact siN_len _ _ _
  have HLT := hide (show ∀ s ∈ l, s < 2 ^ 16 from fun s hs => by rw [← hl.out] at hs; have := (siN_mem hs).2.1; omega)
  rw [hl.out] at HO2
  obtain ⟨av, cv, rfl⟩ := own_slice HO2.out
  obtain ⟨ok, hok⟩ : ∃ ok, Hid (siOk p n L = ok) := ⟨_, rfl⟩
  rw [hok.out]
  have HML := hide hml
  clear hb hown hA1 HT HB1 HB0 hpe hml
  go_wp2_with fail
  refine (listsOfSets_any _ m cv av l _ HO2.out HLT.out hm).mono ?_
  rintro e w3 ⟨B, rfl, hp, hB, hb⟩
  have HE : Hid (SimEnd p n L w (.returned (.tuple #[.slice (some ⟨B, 0, none⟩) m m, .bool ok])) w3) := by
    refine ⟨B, m, _, by rw [hok.out], by rw [hl.out]; exact HML.out, by rw [hl.out]; exact hp, by have := HB2.out.size; omega, HB2.out.size, hb.size, HB2.out.trans (hb.mono HB2.out.size)⟩
  clear hp hB hb HO2 HLT HB2 hl HML
  go_wp2_with fail
  go_ret2
  exact HE.out
end Go.Proofs.Ytajcmamapmeglaa


/- SmallInvariants of both, told alike; what the law keeps in mind. -/
namespace Go.Proofs.Ytajcmamapmeglaa
open Go.RowKit
set_option maxRecDepth 10000

theorem sizeL_leK {R : List (List Int)} (h : ∀ x ∈ R, x.length ≤ 16) : sizeL R ≤ 16 * R.length := by
  induction R with
  | nil => simp [sizeL]
  | cons a R ih =>
    have h1 := h a (by simp)
    have h2 := ih fun x hx => h x (List.mem_cons_of_mem _ hx)
    simp only [sizeL, List.map_cons, List.sum_cons, List.length_cons] at *
    omega

theorem cntF_sizeK (L : List (List Int)) (k : Nat) (h : k ≤ L.length) : cntF (fun j => L.getD j []) k = sizeL (L.take k) := by
  induction k with
  | zero => simp [cntF, sizeL]
  | succ k ih => simp only [cntF]; rw [ih (by omega), sizeL_take_succ L k (by omega)]

theorem cntF_allK {L : List (List Int)} {n : Nat} (hl : L.length = n) : cntF (fun j => L.getD j []) n = sizeL L := by
  rw [cntF_sizeK L n (by omega), List.take_of_length_le (by omega)]

theorem PartG.listsK {w : World} {B lo hi n : Nat} {T : TypeId} {K : List (List Int)} (h : PartG w B lo hi n T (fun j => K.getD j [])) (hl : K.length = n) (hs : sizeN n K ≤ 1048576) : Lists w (some ⟨B, 0, none⟩) n K := by
  obtain ⟨C, A, f, cap, h1, h2, h3, h4⟩ := h
  refine ⟨hl, .inr ⟨B, 0, rfl, (Array.getElem?_eq_some_iff.mp h1).1, fun j hj => ?_⟩⟩
  obtain ⟨e1, e2, e3⟩ := h3 j hj
  refine ⟨_, _, _, by rw [cell_of_row w B (0 + j) C T _ h1, Nat.zero_add]; exact e1, ?_, e2.row⟩
  have := len_le K j
  show (K.getD j []).length ≤ maxLen
  unfold sizeN at hs; unfold maxLen; omega

theorem sm_pack (p : Int) (n : Nat) (L : List (List Int)) (hs : sizeN n L ≤ 1048576) : ∃ (g : Bool) (N : Nat) (K : List (List Int)), Hid (K.length = N ∧ sizeN N K ≤ 1048576 ∧ cntF (fun j => K.getD j []) N ≤ 1048576) ∧ N ≤ 1048576 ∧
    Hid (∀ (a : Option Addr) (c : Nat) (w : World), Lists w a (3 * n) L → Calls Try.prog 25 #[.agg #[.int .i64 p, .slice a n c]] w fun e w' => ∃ a c, e = .returned (.tuple #[.slice a N c, .bool g]) ∧ Lists w' a N K ∧ Below w.heap.size w w') ∧
    Hid (∀ (a : Option Addr) (c : Nat) (w : World), Lists w a (3 * n) L → Calls Try.prog 24 #[.agg #[.int .i64 p, .slice a n c]] w fun e w' => ∃ B lo, e = .returned (.tuple #[.slice (some ⟨B, 0, none⟩) N N, .bool g]) ∧ PartG w' B lo w'.heap.size N 27 (fun j => K.getD j []) ∧ w.heap.size ≤ B ∧ w.heap.size ≤ lo ∧ lo ≤ w'.heap.size ∧ Below w.heap.size w w') := by
  have h16 : ∀ x ∈ listsN (siN p n L), x.length ≤ 16 := fun x hx => by
    obtain ⟨s, _, rfl⟩ := List.mem_map.mp hx
    exact nums2_len _ _
  have hN := siN_len p n L
  have hz := sizeL_leK h16
  rw [listsN_len] at hz
  refine ⟨siOk p n L, (siN p n L).length, listsN (siN p n L), ⟨listsN_len _, by unfold sizeN; omega, by rw [cntF_allK (listsN_len _)]; omega⟩, by omega, fun a c w hl => ?_, fun a c w hl => ?_⟩
  · refine (smallInvS_any p a n c L w hl hs).mono ?_
    rintro e w' ⟨v, rfl, hlr, hb⟩
    obtain ⟨a', c', rfl, h2⟩ := hlr.lists (listsN_at _)
    rw [listsN_len] at h2
    exact ⟨a', c', by rw [listsN_len], h2, hb⟩
  · refine (smallI_any p a n c L w hl hs).mono ?_
    rintro e w' ⟨B, m, lo, rfl, rfl, hp, h1, h2, h3, hb⟩
    exact ⟨B, lo, rfl, hp, h1, h2, h3, hb⟩

theorem Keeps.atTopK {lo hi : Nat} {w w' : World} (h : Keeps lo hi w w') {b : Nat} {o : Obj} (hb : w.heap[b]? = some o) (hh : hi ≤ b) : w'.heap[b]? = some o := (h.top b hh (Array.getElem?_eq_some_iff.mp hb).1).trans hb
theorem Keeps.atLowK {lo hi : Nat} {w w' : World} (h : Keeps lo hi w w') {b : Nat} {o : Obj} (hb : w.heap[b]? = some o) (hh : b < lo) : w'.heap[b]? = some o := (h.bel.block b hh).trans hb

theorem PartF.lowK {w w' : World} {B hi n lo : Nat} {T : TypeId} {M : Nat → List Int} (h : PartF w B hi n T M) (hb : Below lo w w') (hB : B < lo) (hh : hi ≤ lo) : PartF w' B hi n T M := by
  obtain ⟨C, f, h1, h2, h3, h4⟩ := h
  refine ⟨C, f, (hb.block B hB).trans h1, h2, fun j hj => ?_, h4⟩
  obtain ⟨e1, e2, e3, e4⟩ := h3 j hj
  refine ⟨e1, e2, e3, e4.1, ?_⟩
  rcases e4.2 with h0 | ⟨e, hh'⟩
  · exact .inl h0
  · exact .inr ⟨e, (hb.block _ (by omega)).trans hh'⟩

section
variable {w u v v' : World} {p : Int} {a : Option Addr} {n c B hi bx : Nat} {M M' : Nat → List Int} {Bg lo hig N : Nat} {Mg Mg' : Nat → List Int}

end
end Go.Proofs.Ytajcmamapmeglaa


/- What FnKeptAll needs besides: sameLists, numberOf by a number, rows of ones. -/
namespace Go.Proofs.Ytajcmamapmeglaa
open Go.RowKit
set_option maxRecDepth 10000

set_option maxHeartbeats 400000 in
theorem sameSSK_any (a d : Option Addr) (n c e : Nat) (L : List (List Int)) (w : World) (h : Lists w a n L) (g : Lists w d n L) (hs : sizeN n L ≤ 1048576) :
    Calls Try.prog 28 #[.slice a n c, .slice d n e] w fun e w' => e = .returned (.bool true) ∧ Below w.heap.size w w' := by
  have hn : n ≤ 1048576 := by unfold sizeN at hs; omega
  have hne : ((n : Int) != (n : Int)) = false := by simp
  have HL := hide h
  have HG := hide g
  clear h g
  go_enter Try.func28, Try.ntmps28
  go_wp2_with fail
  go_loopw [13] (fun i wr => ∃ k : Nat, k ≤ n ∧ i = .int .i64 k ∧ Hid (Below w.heap.size w wr)) (fun i _ => n - (intOf i).toNat)
  case atStart => exact ⟨0, Nat.zero_le _, rfl, Below.refl _ _⟩
  case round =>
    obtain ⟨k, hk, rfl, hbw⟩ := hrel
    clear hne
    by_cases hlt : k < n
    · obtain ⟨b, off, a0, n0, c0, rfl, hb, hc0, m0, r0⟩ := (HL.out.below hbw.out).at hlt
      obtain ⟨b', off', a0', n0', c0', rfl, hb', hc0', m0', r0'⟩ := (HG.out.below hbw.out).at hlt
      have hl0 := len_le L k
      have hs' : n + sizeL L ≤ 1048576 := hs
      have q0 : n0 ≤ 1048576 := by have := r0.1; omega
      have HT := hide (fun q => sameI_any a0 a0' n0 n0' c0 c0' _ _ (wr.drewN q) (r0.drewN q) (r0'.drewN q) q0)
      have hsm := sameB_self (L.getD k [])
      generalize L.getD k [] = x0 at *
      clear r0 hl0 q0 hs' r0' m0 m0'
      go_wp2_with fail
      go_region_with (go_at_call 18; refine (HT.out 1).mono ?_; rintro e w1 ⟨rfl, q, rfl⟩)
      all_goals
        have HB := hide (hbw.out.trans ((below_drewN' wr (1 + q)).mono hbw.out.size))
        clear HT
        go_wp2_with fail
        go_roundw
        case rel => exact ⟨k + 1, by omega, by go_num, HB⟩
        case measure => simp [intOf]; omega
    · have hk' : k = n := by omega
      subst hk'
      go_wp2_with fail
      go_ret
      exact ⟨rfl, hbw.out⟩

/-- The number that some bytes give. -/
def numV (bs : List Int) : Nat := bs.foldl (fun z x => ((31 * (z : Int) + x) % 1000003).toNat) 0

theorem numV_lt (bs : List Int) : numV bs < 1000003 := by
  unfold numV
  induction bs using snoc_ind with
  | h0 => simp
  | h1 bs x ih =>
    rw [List.foldl_append]
    show Int.toNat _ < _
    have := Int.emod_lt_of_pos (31 * ((bs.foldl (fun (z : Nat) (x : Int) => ((31 * (z : Int) + x) % 1000003).toNat) 0 : Nat) : Int) + x) (show (0 : Int) < 1000003 by omega)
    omega

theorem numV_step {bs : List Int} {k : Nat} (hk : k < bs.length) : numV (bs.take (k + 1)) = ((31 * (numV (bs.take k) : Int) + bs.getD k 0) % 1000003).toNat := by
  unfold numV
  rw [List.take_succ_eq_append_getElem hk, List.foldl_append]
  rw [show bs.getD k 0 = bs[k] by rw [List.getD_eq_getElem?_getD, List.getElem?_eq_getElem hk]; rfl]
  rfl

set_option maxHeartbeats 400000 in
theorem numberV_any (a : Option Addr) (n c : Nat) (bs : List Int) (w : World) (h : RowB w a n bs) (hn : n ≤ 1048576) :
    Calls Try.prog 13 #[.slice a n c] w fun e w' => e = .returned (.int .i64 (numV bs : Int)) ∧ w' = w := by
  have HR := hide h
  clear h
  go_enter Try.func13, Try.ntmps13
  go_wp2_with fail
  go_loop [3, 8] (fun m i => ∃ k z : Nat, k ≤ n ∧ i = .int .i64 k ∧ m = .int .i64 (z : Int) ∧ z < 1000003 ∧ Hid (z = numV (bs.take k))) (fun _ i => n - (intOf i).toNat)
  case atStart => exact ⟨0, 0, Nat.zero_le _, rfl, rfl, by omega, rfl⟩
  case round =>
    obtain ⟨k, z, hk, rfl, rfl, hz, hzz⟩ := hrel
    by_cases hlt : k < n
    · have hi1 : (k : Int) < (n : Int) := by omega
      have hstep := numV_step (bs := bs) (k := k) (by have := HR.out.1; omega)
      rw [← hzz.out] at hstep
      rcases HR.out.2.2 with h0 | ⟨b, off, rfl, hl, hc⟩
      · omega
      have hck := hc k hlt
      have hx := HR.out.2.1 k
      generalize bs.getD k 0 = x at hck hx hstep
      have HS := hide hstep
      clear hc HR hstep hzz
      have hz1 : (0 : Int) ≤ (z : Int) ∧ (z : Int) < 1000003 := by omega
      go_wp2_with fail
      go_round
      case rel => exact ⟨k + 1, ((31 * (z : Int) + x) % 1000003).toNat, by omega, by go_num, by have := Int.emod_nonneg (31 * (z : Int) + x) (show (1000003 : Int) ≠ 0 by omega); congr 1; omega, by have := Int.emod_lt_of_pos (31 * (z : Int) + x) (show (0 : Int) < 1000003 by omega); omega, HS.out.symm⟩
      case measure => simp [intOf]; omega
    · have hk' : k = n := by omega
      have HZ : Hid (z = numV bs) := by have h1 := hzz.out; rw [List.take_of_length_le (by have := HR.out.1; omega)] at h1; exact h1
      go_wp2_with fail
      go_ret
      exact ⟨by rw [← HZ.out]; rfl, rfl⟩

theorem rowB_at {u m i : Nat} (h : i < m) : (rowB u m)[i]? = some (if u.testBit i then 1 else 0) := by
  unfold rowB listF
  rw [List.getElem?_map, List.getElem?_range h]; rfl
theorem rowB_lenK (u m : Nat) : (rowB u m).length = m := listF_len _ _

theorem rowB_made (f : Nat → Int) (m : Nat) : outF f 0 m = rowB 0 m := by
  unfold outF rowB
  congr 1
  funext i
  rw [if_neg (by omega), Nat.zero_testBit]; rfl

theorem rowB_set {xs : List Int} {q m : Nat} {x : Nat} (h : xs[q]? = some (x : Int)) : (rowB (maskL (xs.take q)) m).set x 1 = rowB (maskL (xs.take (q + 1))) m := by
  rw [maskL_take xs q _ h, Int.toNat_natCast]
  apply List.ext_getElem?
  intro i
  by_cases hi : i < m
  · rw [List.getElem?_set, rowB_lenK, rowB_at hi, rowB_at hi, Nat.testBit_or, Nat.testBit_two_pow]
    by_cases e : x = i
    · subst e; simp [hi]
    · simp [e]
  · rw [List.getElem?_eq_none (by rw [List.length_set, rowB_lenK]; omega), List.getElem?_eq_none (by rw [rowB_lenK]; omega)]

theorem si_wgt {P n : Nat} {L : List (List Int)} {s : Nat} (hok : siOk (P : Int) n L = true) (h : s ∈ siN (P : Int) n L) : inR (P : Int) n L (rowB s P) = true ∧ wgtOk (P : Int) n L (rowB s P) = true := by
  have h1 := (si_set hok h).2.2
  have hpl : plainB (P : Int) n L = true := by unfold siOk at hok; rw [Bool.and_eq_true] at hok; exact hok.1
  have hw : wgtOk (P : Int) n L (rowB s P) = true := by
    unfold wgtOk
    rw [hpl, rowB_lenK]
    have ha : allB (rowB s P) (-9) 9 = true := by
      unfold allB
      rw [List.all_eq_true]
      intro x hx
      unfold rowB listF at hx
      obtain ⟨i, _, rfl⟩ := List.mem_map.mp hx
      show inB (if s.testBit i then 1 else 0) (-9) 9 = true
      split <;> rfl
    rw [ha]; simp
  exact ⟨by unfold inR; rw [hw, h1]; rfl, hw⟩

theorem nums_neK {s : Nat} (h : 1 ≤ s) (h2 : s < 2 ^ 16) : (nums2 s.testBit 16).length ≠ 0 := fun e => by
  have h3 := mask_nums s h2
  rw [List.length_eq_zero_iff.mp e] at h3
  have h4 : maskL [] = 0 := rfl
  omega

theorem run_callK {P : Program} {o : Oper} {a : Act} {w : World} (f : FuncId) (fn : Func) (xs : Array Operand) (ts : Array TypeId) (hop : o.op = Op.call { callee := Callee.value (Operand.func f), args := xs, argTypes := ts })
    (hfn : P.funcs[f]? = some fn) (hnm : (fn.name == "runtime.NumGoroutine") = false) (hbd : fn.body.isNone = false) : (execOp a.eval o).run P w = .ok (.enter f (xs.map a.eval)) w := by
  have hnm' : ¬ fn.name = "runtime.NumGoroutine" := by simpa using hnm
  have hbd' : ¬ fn.body = none := by intro e; rw [e] at hbd; simp at hbd
  unfold execOp
  simp only [hop]
  simp [resolve, invoke, go_sem, Act.eval, callFunc, hfn, hnm', hbd']

theorem maph1K (g : Operand → Value) (x : Operand) (v : Value) (h : g x = v) : (#[x] : Array Operand).map g = #[v] := by simp [h]

/-- A call as one step of a region that draws its order. -/
theorem step_callK {P : Program} {ops : Array Oper} {o : Oper} {a : Act} {w : World} {K : Act → World → Prop} {Q : Exit → Act → World → Prop} {E : Prop}
    (hg : o.guard = none) (f : FuncId) (fn : Func) (xs : Array Operand) (ts : Array TypeId) (hop : o.op = Op.call { callee := Callee.value (Operand.func f), args := xs, argTypes := ts })
    (hfn : P.funcs[f]? = some fn) (hnm : (fn.name == "runtime.NumGoroutine") = false) (hbd : fn.body.isNone = false) (args : Array Value) (hargs : xs.map a.eval = args) (R : Ending → World → Prop) (hc : Calls P f args w R)
    (h : ∀ e w', R e w' → ∃ v, e = .returned v ∧ K (a.put o.dst v) w') :
    if Region.wanted o (yielded ops a.tmps) = true then Oper.wp P o a w K Q else E := by
  have hw : Region.wanted o (yielded ops a.tmps) = true := by simp [Region.wanted, hg]
  rw [if_pos hw]
  unfold Oper.wp
  rw [run_callK f fn xs ts hop hfn hnm hbd, hargs, Oper.upon_enter]
  refine hc.mono fun e w'' hh => ?_
  obtain ⟨v, rfl, hk⟩ := h e w'' hh
  exact hk


theorem listsN_atK {l : List Nat} {i s : Nat} (h : l[i]? = some s) : (listsN l).getD i [] = nums2 s.testBit 16 := by
  unfold listsN
  rw [List.getD_eq_getElem?_getD, List.getElem?_map, h]; rfl
end Go.Proofs.Ytajcmamapmeglaa
