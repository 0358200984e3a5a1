/- Contracts that the proof stands on, one behind the other. -/
import Derived.Test.YtajcmamapmeglaaP14
/- The program's Fire, for every net, mark and number in memory. -/
namespace Go.Proofs.Ytajcmamapmeglaa
open Go.RowKit
set_option maxRecDepth 10000

/-- A list in a block of its own and a bool; nothing that was there is written. -/
def LEnd (g : Bool) (r : List Int) (w : World) (e : Ending) (w' : World) : Prop :=
  ∃ a b n, e = .returned (.tuple #[.slice a n n, .bool g]) ∧ Blk w' a b n r ∧ w.heap.size ≤ b ∧ Below w.heap.size w w'

theorem lend_no {p : Int} {n : Nat} {L : List (List Int)} {ys : List Int} {t : Int} {w w' : World} (h : fireOk p n L ys t = false) (hb : Below w.heap.size w w') : LEnd (fireOk p n L ys t) (fireR p n L ys t) w (.returned (.tuple #[.slice none 0 0, .bool false])) w' := by
  refine ⟨none, w.heap.size, 0, by rw [h], ⟨?_, .inl rfl⟩, Nat.le_refl _, hb⟩
  unfold fireR; rw [h]; rfl

theorem lend_yes {p : Int} {n : Nat} {L : List (List Int)} {ys : List Int} {t : Int} {w w' : World} {b m : Nat} (h : fireOk p n L ys t = true) (hl : (firedL L ys t).length = m) (hh : w'.heap[b]? = some (.cells (cellsOf (firedL L ys t)) 3 (0, 0))) (hB : w.heap.size ≤ b) (hb : Below w.heap.size w w') :
    LEnd (fireOk p n L ys t) (fireR p n L ys t) w (.returned (.tuple #[.slice (some ⟨b, 0, none⟩) m m, .bool true])) w' := by
  have hr : fireR p n L ys t = firedL L ys t := by unfold fireR; rw [h]; rfl
  exact ⟨_, b, m, by rw [h], ⟨by rw [hr]; exact hl, .inr ⟨rfl, by rw [hr]; exact hh⟩⟩, hB, hb⟩

theorem fireL_len (x0 x1 x2 ys : List Int) : (fireL x0 x1 x2 ys).length = ys.length := by unfold fireL; rw [updL_len, updL_len, updL_len]

/-- By sets as by lists. -/
theorem fire_eq {p : Int} {n nm : Nat} {L : List (List Int)} {ys : List Int} {t : Int} (hnet : netOk p n L = true) (hg : goodB p ys = true) (hl : ys.length = nm) :
    fireB n L (fOf ys nm) t = fireOk p n L ys t ∧ (fireOk p n L ys t = true → listF (partF (maskL (inOf L t)) (maskL (outOf L t)) (maskL (resOf L t)) (fOf ys nm) 16) nm = firedL L ys t) := by
  obtain ⟨hp, hlp, hy⟩ := goodB_parts hg
  have hnm : (nm : Int) = p := by omega
  unfold fireB fireOk
  rw [hnet, hg]
  by_cases g2 : inB t 0 ((n : Int) - 1) = true
  rotate_left
  · have g2' : inB t 0 ((n : Int) - 1) = false := by simpa using g2
    rw [g2']; exact ⟨rfl, fun h => by simp at h⟩
  have ht : 0 ≤ t ∧ t ≤ (n : Int) - 1 := by simpa [inB] using g2
  have htri := tri_rise (triOkOf hnet (show t.toNat < n by omega))
  obtain ⟨h0, h1, h2⟩ := htri
  have e1 := can_sub (x0 := inOf L t) hp hnm hy h0
  rw [g2, e1]
  by_cases hc : canB (inOf L t) ys = true
  · have e2 := good_cap (x0 := inOf L t) (x1 := outOf L t) (x2 := resOf L t) hp hnm hl hy h0 h1 h2 hc
    refine ⟨?_, fun _ => list_fire (x0 := inOf L t) (x1 := outOf L t) (x2 := resOf L t) hp hnm hl h0 h1 h2⟩
    unfold firedL; rw [e2, hc]; rfl
  · have hc' : canB (inOf L t) ys = false := by simpa using hc
    rw [hc']; exact ⟨rfl, fun h => by simp at h⟩

theorem partF_small {s0 s1 s2 : Nat} {f : Nat → Int} (hf : ∀ i, 0 ≤ f i ∧ f i ≤ 50) (hen : ∀ i, s0.testBit i = true → 0 < f i) (k i : Nat) : 0 ≤ partF s0 s1 s2 f k i ∧ partF s0 s1 s2 f k i ≤ 255 := by
  have h1 := hf i
  have h2 := hen i
  unfold partF stepF
  split
  · cases h3 : s0.testBit i
    · simp only [Bool.false_eq_true, if_false]
      (repeat' split) <;> omega
    · have := h2 h3
      simp only [if_true]
      (repeat' split) <;> omega
  · omega

set_option maxHeartbeats 2000000 in
theorem implFire_any (p : Int) (a am : Option Addr) (n c nm cm : Nat) (L : List (List Int)) (ys : List Int) (t : Int) (w : World) (h : Lists w a (3 * n) L) (rm : Row w am nm ys) (hs : sizeN n L ≤ 1048576) (hnm : nm ≤ 1048576) :
    Calls Try.prog 40 #[.agg #[.int .i64 p, .slice a n c], .slice am nm cm, .int .i64 t] w fun e w' => LEnd (fireOk p n L ys t) (fireR p n L ys t) w e w' := by
  have hAl := below_al w (.cells #[.int .i64 p, .slice a n c] 26)
  have HT := hide (netTok_any p a am n c nm cm L ys _ (h.below hAl) (rm.below hAl) hs hnm)
  have HLY := hide rm.1
  have HB0 := hide hAl
  clear h rm hAl
  go_enter Try.func40, Try.ntmps40
  go_wp2_with fail
  refine HT.out.mono ?_
  rintro e w1 ⟨p', a', m', c', l, rfl, hx, hb⟩
  have hz := HB0.out.size
  have HB1 := hide (HB0.out.trans (hb.mono HB0.out.size))
  have hz1 := HB1.out.size
  have hA1 := below_al w1 (.cells #[.int .i64 p', .slice a' m' c'] 59)
  have hA2 := below_al (w1.alloc (.cells #[.int .i64 p', .slice a' m' c'] 59)) (.cells #[.int .u8 0, .int .u8 0, .int .u8 0, .int .u8 0, .int .u8 0, .int .u8 0, .int .u8 0, .int .u8 0, .int .u8 0, .int .u8 0, .int .u8 0, .int .u8 0, .int .u8 0, .int .u8 0, .int .u8 0, .int .u8 0] 74)
  have hs1 : (w1.alloc (.cells #[.int .i64 p', .slice a' m' c'] 59)).heap.size = w1.heap.size + 1 := by simp
  have hg0 := heap_alloc_new (w1.alloc (.cells #[.int .i64 p', .slice a' m' c'] 59)) (.cells #[.int .u8 0, .int .u8 0, .int .u8 0, .int .u8 0, .int .u8 0, .int .u8 0, .int .u8 0, .int .u8 0, .int .u8 0, .int .u8 0, .int .u8 0, .int .u8 0, .int .u8 0, .int .u8 0, .int .u8 0, .int .u8 0] 74)
  rw [hs1] at hg0
  clear hb HT HB0
  by_cases g1 : (netOk p n L && goodB p ys) = true
  rotate_left
  · have g1' : (netOk p n L && goodB p ys) = false := by simpa using g1
    have HN := hide (fun W (hW : Below w.heap.size w W) => lend_no (w := w) (fireOk_no1 (t := t) g1') hW)
    rw [g1']
    have HBX := hide (below_setRow ((HB1.out.alloc HB1.out.size (.cells #[.int .i64 p', .slice a' m' c'] 59)).alloc (by simp; omega) (.cells #[.int .u8 0, .int .u8 0, .int .u8 0, .int .u8 0, .int .u8 0, .int .u8 0, .int .u8 0, .int .u8 0, .int .u8 0, .int .u8 0, .int .u8 0, .int .u8 0, .int .u8 0, .int .u8 0, .int .u8 0, .int .u8 0] 74)) (w1.heap.size + 1) (by omega) (packOf ys l))
    clear g1 g1' hx
    go_wp2_with (refine wpList_store_row rfl 74 _ _ rfl _ _ rfl rfl 74 _ hg0 (by rw [packOf_size]; exact Try.size74) (by rw [packOf_size]; rfl) (packOf_one _ _) ?_)
    go_ret2
    exact HN.out _ HBX.out
  have hgg := g1
  rw [Bool.and_eq_true] at hgg
  obtain ⟨e1, e2, e3, e4, B, e5, e6, e7⟩ := hx.out g1
  subst e1 e2 e3 e4 e5
  rw [g1]
  have hAA := hA1.trans (hA2.mono hA1.size)
  have HPS := hide ((e7.grow hAA).setRow (show B ≠ w1.heap.size + 1 by obtain ⟨C, q1, _⟩ := e7; have := (Array.getElem?_eq_some_iff.mp q1).1; omega) (packOf ys l))
  have hg1 := setRow_same hg0 (packOf ys l)
  have HBX := hide (below_setRow (HB1.out.trans (hAA.mono HB1.out.size)) (w1.heap.size + 1) (by omega) (packOf ys l))
  have Q7 := keepR (keep (heap_alloc_new w1 (.cells #[.int .i64 p', .slice (some ⟨B, 0, none⟩) c' c'] 59)) hA2) (show w1.heap.size ≠ w1.heap.size + 1 by omega) (packOf ys l)
  obtain ⟨hq0, hq1⟩ := cells2 Q7
  have HQ7 := hide Q7
  have HGP := hide hgg
  clear e6 e7 hx hAA hA1 hA2 g1 hgg Q7
  go_wp2_with (first
    | refine wpList_store_row rfl 74 _ _ rfl _ _ rfl rfl 74 _ hg0 (by rw [packOf_size]; exact Try.size74) (by rw [packOf_size]; rfl) (packOf_one _ _) ?_
    | refine wpList_load_row rfl 74 _ rfl _ rfl 74 (packOf ys l) (0, 0) _ hg1 Try.underlying74 rfl (by rw [packOf_size]; exact Try.size74) ?_)
  obtain ⟨⟨hp1, hp2⟩, hlp, hyb⟩ := goodB_parts HGP.out.2
  have hfs : ∀ i, 0 ≤ fOf ys l i ∧ fOf ys l i ≤ 50 := by
    intro i; unfold fOf; split
    · exact hyb i
    · omega
  have HEQ := hide (fire_eq (t := t) HGP.out.1 HGP.out.2 HLY.out)
  have HFS := hide hfs
  obtain ⟨V, hV⟩ : ∃ V, Hid ((((w1.alloc (.cells #[.int .i64 p', .slice (some ⟨B, 0, none⟩) c' c'] 59)).alloc (.cells #[.int .u8 0, .int .u8 0, .int .u8 0, .int .u8 0, .int .u8 0, .int .u8 0, .int .u8 0, .int .u8 0, .int .u8 0, .int .u8 0, .int .u8 0, .int .u8 0, .int .u8 0, .int .u8 0, .int .u8 0, .int .u8 0] 74)).setRow (w1.heap.size + 1) (packOf ys l)) = V) := ⟨_, rfl⟩
  rw [hV.out] at HPS HBX HQ7 ⊢
  have HFI := hide (fireI_any p' t B c' c' L (fOf ys l) V HPS.out HGP.out.1 ⟨hp1, hp2⟩ hfs)
  clear hq0 hq1 hg0 hg1 hs1 hfs hyb hV
  refine HFI.out.mono ?_
  rintro e w2 ⟨h, rfl, hh, hb2⟩
  rw [HEQ.out.1] at hh ⊢
  have hA3 := below_al w2 (.cells #[.int .u8 0, .int .u8 0, .int .u8 0, .int .u8 0, .int .u8 0, .int .u8 0, .int .u8 0, .int .u8 0, .int .u8 0, .int .u8 0, .int .u8 0, .int .u8 0, .int .u8 0, .int .u8 0, .int .u8 0, .int .u8 0] 74)
  have hg0 := heap_alloc_new w2 (.cells #[.int .u8 0, .int .u8 0, .int .u8 0, .int .u8 0, .int .u8 0, .int .u8 0, .int .u8 0, .int .u8 0, .int .u8 0, .int .u8 0, .int .u8 0, .int .u8 0, .int .u8 0, .int .u8 0, .int .u8 0, .int .u8 0] 74)
  have hg1 := setRow_same hg0 (tokF h)
  have hz7 := row_lt HQ7.out
  have hz2 := hb2.size
  have hvs := HBX.out.size
  have Q8 := keepR (keep (keep HQ7.out hb2) hA3) (show w1.heap.size ≠ w2.heap.size by omega) (tokF h)
  obtain ⟨hq0, hq1⟩ := cells2 Q8
  have HB3 := hide (below_setRow ((HBX.out.trans (hb2.mono HBX.out.size)).trans (hA3.mono (by omega))) w2.heap.size (by omega) (tokF h))
  clear HFI hb2 hA3 Q8 HPS
  by_cases g : fireOk p' c' L ys t = true
  rotate_left
  · have g' : fireOk p' c' L ys t = false := by simpa using g
    have HN := hide (lend_no (w := w) g' HB3.out)
    rw [g']
    clear g g' hh
    go_wp2_with (refine wpList_store_row rfl 74 _ _ rfl _ _ rfl rfl 74 _ hg0 (by rw [tokF_size]; exact Try.size74) (by rw [tokF_size]; rfl) (tokF_one _) ?_)
    go_ret2
    exact HN.out
  have hh2 := hh.out g
  have HG := hide g
  rw [g]
  subst hh2
  have hpl : p' = (l : Int) := by have := HLY.out; omega
  subst hpl
  have hl16 : l ≤ 16 := by omega
  have HSM : Hid (∀ i, 0 ≤ partF (maskL (inOf L t)) (maskL (outOf L t)) (maskL (resOf L t)) (fOf ys l) 16 i ∧ partF (maskL (inOf L t)) (maskL (outOf L t)) (maskL (resOf L t)) (fOf ys l) 16 i ≤ 255) := by
    refine fun i => partF_small HFS.out (fun j hj => ?_) 16 i
    have hb := HEQ.out.1.trans HG.out
    unfold fireB at hb
    simp only [Bool.and_eq_true] at hb
    have := subF_iff.mp hb.1.2 j hj
    rw [posL_bit] at this
    simp only [Bool.and_eq_true, decide_eq_true_eq] at this
    exact this.2
  have HLF := hide (HEQ.out.2 HG.out)
  clear g hh
  obtain ⟨F, hF⟩ : ∃ F, Hid (partF (maskL (inOf L t)) (maskL (outOf L t)) (maskL (resOf L t)) (fOf ys l) 16 = F) := ⟨_, rfl⟩
  rw [hF.out] at hg1 hq0 hq1 HB3 HSM HLF ⊢
  go_wp2_with (first
    | refine wpList_store_row rfl 74 _ _ rfl _ _ rfl rfl 74 _ hg0 (by rw [tokF_size]; exact Try.size74) (by rw [tokF_size]; rfl) (tokF_one _) ?_
    | refine wpList_load_row rfl 74 _ rfl _ rfl 74 (tokF F) (0, 0) _ hg1 Try.underlying74 rfl (by rw [tokF_size]; exact Try.size74) ?_)
  obtain ⟨V2, hV2⟩ : ∃ V2, Hid ((w2.alloc (.cells #[.int .u8 0, .int .u8 0, .int .u8 0, .int .u8 0, .int .u8 0, .int .u8 0, .int .u8 0, .int .u8 0, .int .u8 0, .int .u8 0, .int .u8 0, .int .u8 0, .int .u8 0, .int .u8 0, .int .u8 0, .int .u8 0] 74)).setRow w2.heap.size (tokF F) = V2) := ⟨_, rfl⟩
  rw [hV2.out] at HB3 ⊢
  have HLS := hide (list_any F l V2 hl16 HSM.out)
  clear hg0 hg1 hq0 hq1 hV2
  rw [HLF.out] at HLS
  refine HLS.out.mono ?_
  rintro e w3 ⟨rfl, rfl⟩
  have HY := hide (lend_yes (w := w) (b := V2.heap.size + 1) (m := l) HG.out (by unfold firedL; rw [fireL_len]; exact HLY.out) (heap_alloc2_new V2 (.cells (tokF F) 74) (.cells (cellsOf (firedL L ys t)) 3)) (by have := HB3.out.size; omega) (HB3.out.trans ((below_two V2 (.cells (tokF F) 74) (.cells (cellsOf (firedL L ys t)) 3)).mono HB3.out.size)))
  clear HLS
  go_wp2_with fail
  go_ret2
  exact HY.out
end Go.Proofs.Ytajcmamapmeglaa


/- What FnSiphons speaks of: an empty siphon stays empty, a trap with a token keeps one. -/
namespace Go.Proofs.Ytajcmamapmeglaa
open Go.RowKit
set_option maxRecDepth 10000

/-- The tokens on the first k of some places. -/
def atS (ys xs : List Int) (k : Nat) : Int := ((xs.take k).map fun x => ys.getD x.toNat 0).sum

theorem atS_zero (ys xs : List Int) : atS ys xs 0 = 0 := rfl
theorem atS_step {ys xs : List Int} {k : Nat} {x : Int} (h : xs[k]? = some x) : atS ys xs (k + 1) = atS ys xs k + ys.getD x.toNat 0 := by
  have hk : k < xs.length := (List.getElem?_eq_some_iff.mp h).1
  have e : xs[k] = x := (List.getElem?_eq_some_iff.mp h).2
  unfold atS
  rw [List.take_succ_eq_append_getElem hk, List.map_append, List.sum_append, e]
  simp
theorem atS_bound {ys : List Int} (hy : ∀ i, 0 ≤ ys.getD i 0 ∧ ys.getD i 0 ≤ 50) (xs : List Int) (k : Nat) : 0 ≤ atS ys xs k ∧ atS ys xs k ≤ 50 * k := by
  induction k with
  | zero => rw [atS_zero]; omega
  | succ k ih =>
    cases h : xs[k]? with
    | none =>
      have hk : xs.length ≤ k := List.getElem?_eq_none_iff.mp h
      have e : atS ys xs (k + 1) = atS ys xs k := by unfold atS; rw [List.take_of_length_le (by omega), List.take_of_length_le hk]
      rw [e]; omega
    | some x => rw [atS_step h]; have := hy x.toNat; omega

theorem sum_zero {ys : List Int} {xs : List Int} (h : ∀ x ∈ xs, ys.getD x.toNat 0 = 0) : (xs.map fun x => ys.getD x.toNat 0).sum = 0 := by
  induction xs with
  | nil => rfl
  | cons x xs ih =>
    rw [List.map_cons, List.sum_cons, h x (by simp), ih fun y hm => h y (by simp [hm])]; rfl

theorem sum_nonneg {ys : List Int} (hy : ∀ i, 0 ≤ ys.getD i 0) (xs : List Int) : 0 ≤ (xs.map fun x => ys.getD x.toNat 0).sum := by
  induction xs with
  | nil => exact Int.le_refl _
  | cons x xs ih => rw [List.map_cons, List.sum_cons]; have := hy x.toNat; omega

theorem sum_pos {ys : List Int} (hy : ∀ i, 0 ≤ ys.getD i 0) {xs : List Int} {x : Int} (hx : x ∈ xs) : ys.getD x.toNat 0 ≤ (xs.map fun x => ys.getD x.toNat 0).sum := by
  induction xs with
  | nil => cases hx
  | cons z xs ih =>
    rw [List.map_cons, List.sum_cons]
    rcases List.mem_cons.mp hx with rfl | h
    · have := sum_nonneg hy xs; omega
    · have := ih h; have := hy z.toNat; omega

theorem sum_some {ys : List Int} {xs : List Int} (h : 0 < (xs.map fun x => ys.getD x.toNat 0).sum) : ∃ x ∈ xs, 0 < ys.getD x.toNat 0 := by
  induction xs with
  | nil => simp at h
  | cons z xs ih =>
    rw [List.map_cons, List.sum_cons] at h
    by_cases hz : 0 < ys.getD z.toNat 0
    · exact ⟨z, by simp, hz⟩
    · obtain ⟨x, hx, h1⟩ := ih (by omega)
      exact ⟨x, by simp [hx], h1⟩

theorem atS_all (ys xs : List Int) : atS ys xs xs.length = (xs.map fun x => ys.getD x.toNat 0).sum := by unfold atS; rw [List.take_length]

theorem andS_zero_bit {s r : Nat} : s &&& r = 0 ↔ ∀ i, s.testBit i = true → r.testBit i = false := by
  constructor
  · intro h i hi
    have := congrArg (·.testBit i) h
    simp only [Nat.testBit_and, hi, Nat.zero_testBit, Bool.true_and] at this
    exact this
  · intro h
    apply Nat.eq_of_testBit_eq; intro i
    rw [Nat.testBit_and, Nat.zero_testBit]
    cases hs : s.testBit i
    · rfl
    · rw [h i hs]; rfl

theorem andS_not_zero {s r : Nat} (h : s &&& r ≠ 0) : ∃ i, s.testBit i = true ∧ r.testBit i = true := by
  rcases Classical.em (∃ i, s.testBit i = true ∧ r.testBit i = true) with h1 | h1
  · exact h1
  · refine absurd (andS_zero_bit.mpr fun i hi => ?_) h
    cases hr : r.testBit i
    · rfl
    · exact absurd ⟨i, hi, hr⟩ h1

/-- What a firing of a net without resets does to a place. -/
theorem fired_at {p : Int} {n : Nat} {L : List (List Int)} {us : List Int} {t : Int} (hpl : plainB p n L = true) (h : fireOk p n L us t = true) (i : Nat) :
    (firedL L us t).getD i 0 = (us.getD i 0 - (if (i : Int) ∈ inOf L t then 1 else 0)) + (if (i : Int) ∈ outOf L t then 1 else 0) := by
  unfold fireOk at h
  simp only [Bool.and_eq_true] at h
  have ht : 0 ≤ t ∧ t < (n : Int) := by
    have ht := h.1.1.2
    unfold inB at ht
    simp only [Bool.and_eq_true, decide_eq_true_eq] at ht
    omega
  have htri := tri_rise (triOkOf (i := t.toNat) h.1.1.1.1 (by omega))
  obtain ⟨hp, hl, _⟩ := goodB_parts h.1.1.1.2
  have hin : riseB (inOf L t) 0 (p - 1) = true := htri.1
  have hout : riseB (outOf L t) 0 (p - 1) = true := htri.2.1
  have hr : resOf L t = [] := by
    unfold plainB at hpl
    rw [Bool.and_eq_true] at hpl
    have h2 := hpl.2
    cases hq : L.getD (3 * t.toNat + 2) [] with
    | nil => exact hq
    | cons a l =>
      rw [resB_yes (k := t.toNat) (by omega) (by rw [hq]; simp)] at h2
      cases h2
  unfold firedL fireL
  rw [hr, updL_at _ _ (p - 1) hout (by rw [updL_len, updL_len]; omega)]
  have e : updL (fun _ => 0) [] (updL (· - 1) (inOf L t) us) = updL (· - 1) (inOf L t) us := rfl
  rw [e, updL_at _ _ (p - 1) hin (by omega)]
  show (if (i : Int) ∈ outOf L t then _ else _) = _
  (repeat' split) <;> omega

theorem can_mark {p : Int} {n : Nat} {L : List (List Int)} {us : List Int} {t : Int} (h : fireOk p n L us t = true) {i : Nat} (hi : (i : Int) ∈ inOf L t) : 0 < us.getD i 0 := by
  unfold fireOk at h
  simp only [Bool.and_eq_true] at h
  have hc := h.1.2
  have hg := (goodB_parts h.1.1.1.2).2.2 i
  unfold canB at hc
  rw [List.all_eq_true] at hc
  have := hc _ hi
  rw [Int.toNat_natCast] at this
  simp only [Bool.not_eq_true', decide_eq_false_iff_not] at this
  omega

theorem mem_bit {p : Int} {xs : List Int} (h : riseB xs 0 (p - 1) = true) (i : Nat) : (maskL xs).testBit i = true ↔ (i : Int) ∈ xs := by
  rw [maskL_bit _ _ (fun z hz => (riseB_mem h z hz).1)]
  simp

section
variable {p : Int} {n : Nat} {L : List (List Int)} {us zs : List Int} {k : Nat} (hok : ssOk p n L zs = true) (hk : k < n) (h : fireOk p n L us (k : Int) = true)
include hk

/-- What a step may do to a set that does not slip. -/
theorem slip_facts {b : Bool} (hs : slips b (maskL zs) n L = false) : sideB b (maskL (inOf L (k : Int))) (maskL (outOf L (k : Int))) &&& maskL zs = 0 ∨ sideB (!b) (maskL (inOf L (k : Int))) (maskL (outOf L (k : Int))) &&& maskL zs ≠ 0 := by
  have h1 : slipAt b (maskL zs) k L = false := by
    cases e : slipAt b (maskL zs) k L
    · rfl
    · rw [slips_yes hk e] at hs; cases hs
  unfold slipAt slipB at h1
  unfold inOf outOf
  rw [Int.toNat_natCast]
  simp only [Bool.and_eq_false_imp, Bool.not_eq_true', decide_eq_false_iff_not] at h1
  by_cases h2 : sideB b (maskL (L.getD (3 * k) [])) (maskL (L.getD (3 * k + 1) [])) &&& maskL zs = 0
  · exact .inl h2
  · exact .inr (h1 h2)

include hok h

theorem siphon_stays (hs : slips true (maskL zs) n L = false) (h0 : atS us zs zs.length = 0) : atS (firedL L us (k : Int)) zs zs.length = 0 := by
  have hp := hok
  unfold ssOk at hp
  rw [Bool.and_eq_true] at hp
  have h' := h
  unfold fireOk at h'
  simp only [Bool.and_eq_true] at h'
  have hu := (goodB_parts h'.1.1.1.2).2.2
  have htri := tri_rise (triOkOf (i := k) h'.1.1.1.1 hk)
  have hin : riseB (inOf L (k : Int)) 0 (p - 1) = true := htri.1
  have hout : riseB (outOf L (k : Int)) 0 (p - 1) = true := htri.2.1
  rw [atS_all] at h0
  have hno : ∀ i : Nat, (i : Int) ∈ zs → us.getD i 0 = 0 := fun i hi => by
    have h1 := sum_pos (fun i => (hu i).1) hi
    rw [Int.toNat_natCast] at h1
    have := (hu i).1
    omega
  have hni : ∀ i : Nat, (i : Int) ∈ zs → ¬ (i : Int) ∈ inOf L (k : Int) := fun i hi hm => by
    have := can_mark h hm
    have := hno i hi
    omega
  have hno2 : ∀ i : Nat, (i : Int) ∈ zs → ¬ (i : Int) ∈ outOf L (k : Int) := by
    rcases slip_facts hk hs with h1 | h1
    · intro i hi hm
      have h1' : maskL (outOf L (k : Int)) &&& maskL zs = 0 := h1
      have h2 := andS_zero_bit.mp h1' i ((mem_bit hout i).mpr hm)
      rw [(mem_bit hp.2 i).mpr hi] at h2
      cases h2
    · have h1' : maskL (inOf L (k : Int)) &&& maskL zs ≠ 0 := h1
      obtain ⟨i, h2, h3⟩ := andS_not_zero h1'
      exact absurd ((mem_bit hin i).mp h2) (hni i ((mem_bit hp.2 i).mp h3))
  rw [atS_all]
  refine sum_zero fun x hx => ?_
  have hx0 := (riseB_mem hp.2 x hx).1
  obtain ⟨i, rfl⟩ : ∃ i : Nat, x = (i : Int) := ⟨x.toNat, by omega⟩
  rw [Int.toNat_natCast, fired_at hp.1 h i, if_neg (hni i hx), if_neg (hno2 i hx), hno i hx]
  rfl

theorem trap_keeps (hs : slips false (maskL zs) n L = false) (h0 : 0 < atS us zs zs.length) : 0 < atS (firedL L us (k : Int)) zs zs.length := by
  have hp := hok
  unfold ssOk at hp
  rw [Bool.and_eq_true] at hp
  have h' := h
  unfold fireOk at h'
  simp only [Bool.and_eq_true] at h'
  have hu := (goodB_parts h'.1.1.1.2).2.2
  have hz := (goodB_parts h'.2).2.2
  have htri := tri_rise (triOkOf (i := k) h'.1.1.1.1 hk)
  have hin : riseB (inOf L (k : Int)) 0 (p - 1) = true := htri.1
  have hout : riseB (outOf L (k : Int)) 0 (p - 1) = true := htri.2.1
  rw [atS_all] at h0 ⊢
  have fin : ∀ i : Nat, (i : Int) ∈ zs → 0 < (firedL L us (k : Int)).getD i 0 → 0 < (zs.map fun x => (firedL L us (k : Int)).getD x.toNat 0).sum := fun i hi hp => by
    have h1 := sum_pos (ys := firedL L us (k : Int)) (fun i => (hz i).1) hi
    rw [Int.toNat_natCast] at h1
    omega
  rcases slip_facts hk hs with h1 | h1
  · have h1' : maskL (inOf L (k : Int)) &&& maskL zs = 0 := h1
    obtain ⟨x, hx, hpos⟩ := sum_some h0
    have hx0 := (riseB_mem hp.2 x hx).1
    obtain ⟨i, rfl⟩ : ∃ i : Nat, x = (i : Int) := ⟨x.toNat, by omega⟩
    rw [Int.toNat_natCast] at hpos
    refine fin i hx ?_
    have hni : ¬ (i : Int) ∈ inOf L (k : Int) := fun hm => by
      have h2 := andS_zero_bit.mp h1' i ((mem_bit hin i).mpr hm)
      rw [(mem_bit hp.2 i).mpr hx] at h2
      cases h2
    rw [fired_at hp.1 h i, if_neg hni]
    split <;> omega
  · have h1' : maskL (outOf L (k : Int)) &&& maskL zs ≠ 0 := h1
    obtain ⟨i, h2, h3⟩ := andS_not_zero h1'
    have hm := (mem_bit hout i).mp h2
    refine fin i ((mem_bit hp.2 i).mp h3) ?_
    rw [fired_at hp.1 h i, if_pos hm]
    by_cases hi : (i : Int) ∈ inOf L (k : Int)
    · have := can_mark h hi
      rw [if_pos hi]; omega
    · have := (hu i).1
      rw [if_neg hi]; omega
end

theorem bgZ_one {b : Bool} {p : Int} {n : Nat} {L : List (List Int)} {xs zs ys : List Int} (h1 : bgZ b p n L xs zs) (h2 : bgZ b p n L xs ys) : ys = zs := by
  cases hok : ssOk p n L xs
  · rw [h1.2 hok, h2.2 hok]
  · obtain ⟨r, _, hg, rfl⟩ := h1.1 hok
    obtain ⟨r', _, hg', rfl⟩ := h2.1 hok
    rw [hg.unique hg']

theorem bgZ_len {b : Bool} {p : Int} {n : Nat} {L : List (List Int)} {xs zs : List Int} (h1 : bgZ b p n L xs zs) : zs.length ≤ 16 := by
  cases hok : ssOk p n L xs
  · rw [h1.2 hok]; simp
  · obtain ⟨r, _, hg, rfl⟩ := h1.1 hok
    exact nums_len _ _

/-- The greatest such set within a set. -/
theorem bg_facts {b : Bool} {p : Int} {n : Nat} {L : List (List Int)} {xs zs : List Int} (hok : ssOk p n L xs = true) (h : bgZ b p n L xs zs) :
    ssOk p n L zs = true ∧ slips b (maskL zs) n L = false ∧ withB zs xs = true ∧ (!slips b (maskL xs) n L) = sameB zs xs := by
  obtain ⟨r, hr16, ⟨hrs, hsl, hmax⟩, rfl⟩ := h.1 hok
  obtain ⟨_, hp1, hp2, hri⟩ := ss_parts hok
  have hmk := mask_nums r hr16
  have hbit := within_bit.mp hrs
  have hrP : r < 2 ^ p.toNat := by
    apply Nat.lt_pow_two_of_testBit
    intro i hi
    cases hb : r.testBit i
    · rfl
    · have h1 := (mem_bit hri i).mp (hbit i hb)
      have := riseB_mem hri _ h1
      omega
  have hrise : riseB (nums2 r.testBit 16) 0 (p - 1) = true := by
    have := nums_rise hrP
    rwa [Int.toNat_of_nonneg (by omega)] at this
  refine ⟨?_, by rw [hmk]; exact hsl, ?_, ?_⟩
  · unfold ssOk at hok ⊢
    rw [Bool.and_eq_true] at hok
    rw [hok.1, hrise]; rfl
  · unfold withB
    rw [List.all_eq_true]
    intro x hx
    have hx0 := (riseB_mem hrise x hx).1
    obtain ⟨i, rfl⟩ : ∃ i : Nat, x = (i : Int) := ⟨x.toNat, by omega⟩
    have h1 := (mem_bit hrise i).mpr hx
    rw [hmk] at h1
    have h2 := (mem_bit hri i).mp (hbit i h1)
    unfold hasB
    simpa using h2
  · rw [Bool.eq_iff_iff]
    unfold sameB
    rw [decide_eq_true_eq, Bool.not_eq_true']
    constructor
    · intro h1
      have h2 := hmax _ (Nat.and_self _) h1
      rw [Nat.and_comm, hrs] at h2
      rw [h2]
      exact nums2_mask hp2 hri
    · intro h1
      rw [← h1, hmk]
      exact hsl

theorem fire_goods {p : Int} {n : Nat} {L : List (List Int)} {us : List Int} {t : Int} (h : fireOk p n L us t = true) : (∀ i, 0 ≤ us.getD i 0 ∧ us.getD i 0 ≤ 50) ∧ (∀ i, 0 ≤ (firedL L us t).getD i 0 ∧ (firedL L us t).getD i 0 ≤ 50) ∧ (firedL L us t).length = us.length := by
  unfold fireOk at h
  simp only [Bool.and_eq_true] at h
  exact ⟨(goodB_parts h.1.1.1.2).2.2, (goodB_parts h.2).2.2, by unfold firedL; exact fireL_len _ _ _ _⟩

theorem bitB_i64 (z j : Nat) (hz : z < 1000003) : 0 ≤ bits .and .i64 ((z : Int) / 2 ^ (2 * j)) 1 ∧ bits .and .i64 ((z : Int) / 2 ^ (2 * j)) 1 ≤ 1 := by
  have e : ((z : Int) / 2 ^ (2 * j)) = ((z / 2 ^ (2 * j) : Nat) : Int) := by rw [Int.natCast_ediv, Int.natCast_pow]; rfl
  have h1 : z / 2 ^ (2 * j) < 2 ^ 62 := Nat.lt_of_le_of_lt (Nat.div_le_self _ _) (by omega)
  have h2 := and_i64 (z / 2 ^ (2 * j)) 1 h1 (by decide)
  rw [e, show (1 : Int) = ((1 : Nat) : Int) from rfl, h2, Nat.and_one_is_mod]
  omega
end Go.Proofs.Ytajcmamapmeglaa


/- What the cursor's mark and the Draw functions of chapter 1 answer: some number of places in 0..17 and some lists in new memory, of at most eighteen numbers, whatever the bytes; nothing that was there is written. -/
namespace Go.Proofs.Ytajcmamapmeglaa
open Go.RowKit

theorem ownsRow_only {w w' : World} {B bc : Nat} {v : Value} {n : Nat} {l : List Value} (h : w.ownsRow B 3 1 v n l) (ho : OnlyC bc w w') (hb : bc < B) : w'.ownsRow B 3 1 v n l := by
  refine ⟨h.1, ?_⟩
  rcases h.2 with h0 | ⟨g, cap, cur, hv, hB, hh, r⟩
  · exact .inl h0
  · exact .inr ⟨g, cap, cur, hv, hB, (ho.block g (by omega)).trans hh, r⟩

/-- What holds while a mark is drawn: w ahead of the call, v now; k numbers have been laid into o. -/
structure MarkSt (w v : World) (bc : Nat) (ca : Option Addr) (cn cc p : Nat) (bs : List Int) (o : Value) (k : Nat) : Prop where
  own : ∃ xs : List Int, v.ownsRow w.heap.size 3 1 o k (xs.map (Value.int .i64))
  cur : Cur v bc ca cn cc p
  bytes : RowB v ca cn bs
  kept : Kept bc w.heap.size w v

theorem MarkSt.only {w v v' : World} {bc : Nat} {ca : Option Addr} {cn cc p p' : Nat} {bs : List Int} {o : Value} {k : Nat} (h : MarkSt w v bc ca cn cc p bs o k) (ho : OnlyC bc v v') (hc : Cur v' bc ca cn cc p') (hap : Apart ca cn bc) (hb : bc < w.heap.size) :
    MarkSt w v' bc ca cn cc p' bs o k := by
  obtain ⟨xs, hx⟩ := h.own
  exact ⟨⟨xs, ownsRow_only hx ho hb⟩, hc, h.bytes.keep ho hap, h.kept.trans (Kept.of_only ho)⟩

theorem MarkSt.alloc {w v : World} {bc : Nat} {ca : Option Addr} {cn cc p : Nat} {bs : List Int} {o : Value} {k : Nat} (h : MarkSt w v bc ca cn cc p bs o k) (ob : Obj) (hap : Apart ca cn bc) :
    MarkSt w (v.alloc ob) bc ca cn cc p bs o k := by
  obtain ⟨xs, hx⟩ := h.own
  have hb := (Below.refl v.heap.size v).alloc (Nat.le_refl _) ob
  exact ⟨⟨xs, hx.alloc ob⟩, h.cur.below hb h.cur.lt, h.bytes.kept (Kept.of_below hb) hap, h.kept.trans ((Kept.of_below hb).mono h.kept.size)⟩

theorem MarkSt.append {w v v' : World} {bc : Nat} {ca : Option Addr} {cn cc p : Nat} {bs : List Int} {o o' : Value} {k : Nat} {xs : List Int} {x : Int} (h : MarkSt w v bc ca cn cc p bs o k) (hx : v.ownsRow w.heap.size 3 1 o k (xs.map (Value.int .i64)))
    (hn : v'.ownsRow w.heap.size 3 1 o' (k + 1) (xs.map (Value.int .i64) ++ [.int .i64 x])) (hg : v.grownBy v' o.ownBlock) (hb : bc < w.heap.size) (hfar : 0 < cn → ∀ y, ca = some y → y.block < w.heap.size) :
    MarkSt w v' bc ca cn cc p bs o' (k + 1) := by
  have hbl : Below w.heap.size v v' := by
    refine (Below.refl w.heap.size v).grown hg h.kept.size fun j hj => ?_
    exact (hx.lt j hj).1
  refine ⟨⟨xs ++ [x], by rw [List.map_append]; exact hn⟩, h.cur.below hbl hb, ?_, h.kept.trans (Kept.of_below hbl)⟩
  refine ⟨h.bytes.1, h.bytes.2.1, ?_⟩
  rcases h.bytes.2.2 with h0 | ⟨b, off, e, hl, hc⟩
  · exact .inl h0
  · exact .inr ⟨b, off, e, Nat.lt_of_lt_of_le hl hbl.size, fun i hi => (World.cell?_of_block (hbl.block b (hfar (by omega) _ e))).trans (hc i hi)⟩

/-- How mark ends. -/
def MarkEnd (bc : Nat) (ca : Option Addr) (cn cc p : Nat) (bs : List Int) (w : World) (e : Ending) (w' : World) : Prop :=
  ∃ a n c xs p', e = .returned (.slice a n c) ∧ n ≤ 18 ∧ p' ≤ p + 60 ∧ Row w' a n xs ∧ Apart a n bc ∧ Cur w' bc ca cn cc p' ∧ RowB w' ca cn bs ∧ Kept bc w.heap.size w w'

theorem ownsRow_row' {B : Nat} {w : World} {v : Value} {n : Nat} {l : List Int} (hown : w.ownsRow B 3 1 v n (l.map (Value.int .i64))) : ∃ a c, v = .slice a n c ∧ Row w a n l := by
  have hl : l.length = n := by have := hown.1; simpa using this
  rcases hown.2 with ⟨rfl, rfl⟩ | ⟨g, cap, cur, rfl, hb, hh, hnc, _, hsz, ht⟩
  · exact ⟨none, 0, rfl, hl, .inl rfl⟩
  · refine ⟨_, cap, rfl, hl, .inr ⟨g, 0, rfl, (Array.getElem?_eq_some_iff.mp hh).1, fun i hi => ?_⟩⟩
    rw [cell_of_row w g (0 + i) _ _ _ hh, Nat.zero_add]
    have e1 : (cur.toList.take (n * 1))[i]? = some (.int .i64 (l.getD i 0)) := by
      rw [ht]; simp [List.getElem?_map, List.getElem?_eq_getElem (show i < l.length by omega)]
    rw [List.getElem?_take_of_lt (by omega)] at e1
    simpa using e1

theorem MarkSt.done {w v : World} {bc : Nat} {ca : Option Addr} {cn cc p q : Nat} {bs : List Int} {o : Value} {k : Nat} (h : MarkSt w v bc ca cn cc q bs o k) (hk : k ≤ 18) (hq : q ≤ p + 60) (hb : bc < w.heap.size) : MarkEnd bc ca cn cc p bs w (.returned o) v := by
  obtain ⟨xs, hx⟩ := h.own
  have hlt := hx.lt
  obtain ⟨a, c, rfl, hr⟩ := ownsRow_row' hx
  refine ⟨a, k, c, xs, q, rfl, hk, hq, hr, fun _ x hx => ?_, h.cur, h.bytes, h.kept⟩
  subst hx
  have := (hlt x.block rfl).1
  omega

/-- .. and the list lies in new memory. -/
def MarkEndW (bc : Nat) (ca : Option Addr) (cn cc p : Nat) (bs : List Int) (w : World) (e : Ending) (w' : World) : Prop :=
  ∃ a n c xs p', e = .returned (.slice a n c) ∧ n ≤ 18 ∧ p' ≤ p + 60 ∧ Row w' a n xs ∧ (0 < n → ∀ x, a = some x → w.heap.size ≤ x.block) ∧ Cur w' bc ca cn cc p' ∧ RowB w' ca cn bs ∧ Kept bc w.heap.size w w'

theorem MarkSt.doneW {w v : World} {bc : Nat} {ca : Option Addr} {cn cc p q : Nat} {bs : List Int} {o : Value} {k : Nat} (h : MarkSt w v bc ca cn cc q bs o k) (hk : k ≤ 18) (hq : q ≤ p + 60) (_hb : bc < w.heap.size) : MarkEndW bc ca cn cc p bs w (.returned o) v := by
  obtain ⟨xs, hx⟩ := h.own
  have hlt := hx.lt
  obtain ⟨a, c, rfl, hr⟩ := ownsRow_row' hx
  refine ⟨a, k, c, xs, q, rfl, hk, hq, hr, fun _ x hx => ?_, h.cur, h.bytes, h.kept⟩
  subst hx
  exact (hlt x.block rfl).1

/-- How a function ends that draws a number of places and a list. -/
def DrawEnd1 (w : World) (e : Ending) (w' : World) : Prop :=
  ∃ (p : Int) (a : Option Addr) (n c : Nat) (xs : List Int), e = .returned (.tuple #[.int .i64 p, .slice a n c]) ∧ n ≤ 18 ∧ Row w' a n xs ∧ Below w.heap.size w w'

/-- .. and two lists. -/
def DrawEnd2 (w : World) (e : Ending) (w' : World) : Prop :=
  ∃ (p : Int) (a : Option Addr) (n c : Nat) (xs : List Int) (b : Option Addr) (m d : Nat) (ys : List Int), e = .returned (.tuple #[.int .i64 p, .slice a n c, .slice b m d]) ∧ n ≤ 18 ∧ m ≤ 18 ∧ Row w' a n xs ∧ Row w' b m ys ∧ Below w.heap.size w w'

theorem RowB.below {w w' : World} {a : Option Addr} {n : Nat} {xs : List Int} (h : RowB w a n xs) (hb : Below w.heap.size w w') : RowB w' a n xs := by
  refine ⟨h.1, h.2.1, ?_⟩
  rcases h.2.2 with h0 | ⟨b, off, e, hl, hc⟩
  · exact .inl h0
  · exact .inr ⟨b, off, e, Nat.lt_of_lt_of_le hl hb.size, fun i hi => (hb.cell (p := ⟨b, off + i, none⟩) hl).trans (hc i hi)⟩

theorem RowB.far {w : World} {ca : Option Addr} {cn : Nat} {bs : List Int} (h : RowB w ca cn bs) (h0 : 0 < cn) (y : Addr) (hy : ca = some y) : y.block < w.heap.size := by
  rcases h.2.2 with h1 | ⟨b, off, e, hl, _⟩
  · omega
  · rw [e] at hy; obtain rfl := Option.some.inj hy; exact hl



end Go.Proofs.Ytajcmamapmeglaa


/- l1Put: a number put to its place in a list, once; the list that is answered is the one that came, or a new one. -/
namespace Go.Proofs.Ytajcmamapmeglaa
open Go.RowKit
set_option maxRecDepth 10000

/-- append, whatever is appended: nil, empty or not. -/
theorem wpList_append_any {P : Program} (w : World) {ops : Array Oper} {rest : List Oper} {o : Oper} {a : Act} {Q : Exit → Act → World → Prop} (hgd : o.guard = none) (s x : Operand) (t : TypeId)
    (ho : o.op = .call { callee := .builtin .append, args := #[s, x], argTypes := #[t, t] })
    (base : Nat) (e : TypeId) (i : TypeInfo) (z : Value) (size bytes : Nat) (ht : P.underlying t = some (.slice e)) (hi : P.info? e = some i) (hz : i.zero = some z)
    (hsize : i.size = size) (hby : i.bytes = bytes) (hzs : z.cells.size = size) (hsz : 0 < size)
    (v : Value) (n : Nat) (xs : List Value) (hs : a.eval s = v) (hown : w.ownsRow base e size v n xs)
    (ao : Option Addr) (m c : Nat) (news : List Value) (hx : a.eval x = .slice ao m c) (hl : news.length = m * size) (hnone : ao = none → m = 0 ∧ c = 0)
    (hnews : ∀ ad, ao = some ad → ∀ j u, news[j]? = some u → w.cell? (ad.add j) = some u) (h1 : ∀ u ∈ news, u.oneCell' = true)
    (h63 : n + m ≤ maxLen) (hbytes : (n + m) * bytes ≤ 140737488355328) (hbase : base ≤ w.heap.size)
    (h : ∀ v' w', w'.ownsRow base e size v' (n + m) (xs ++ news) → w.grownBy w' v.ownBlock → wpList P ops Q rest (a.put o.dst v') w') : wpList P ops Q (o :: rest) a w := by
  cases ao with
  | some ad => exact wpList_append_own w hgd s x t ho base e i z size bytes ht hi hz hsize hby hzs hsz v n xs hs hown ad m c news hx hl (hnews ad rfl) h1 h63 hbytes hbase fun v' w' r1 r2 _ => h v' w' r1 r2
  | none =>
    obtain ⟨rfl, rfl⟩ := hnone rfl
    have hnews : news = [] := List.eq_nil_of_length_eq_zero (by simpa using hl)
    subst hnews
    refine wpList_plain hgd fun K hK' => ?_
    have hrun := run_append_owned_none (P := P) w base t o.type e i size ht hi _ n xs hown
    unfold Oper.wp
    simp [execOp, ho, resolve, invoke, builtin, hs, hx, hrun, Result.andThen]
    exact hK' _ _ (by simpa using h v w (by simpa using hown) (World.grownBy.refl _ _))

/-- How l1Put ends. -/
def PutEnd (n b : Nat) (w : World) (e : Ending) (w' : World) : Prop :=
  ∃ g n' c' ys, e = .returned (.slice (some ⟨g, 0, none⟩) n' c') ∧ 1 ≤ n' ∧ n' ≤ n + 1 ∧ n' ≤ c' ∧ c' ≤ maxLen ∧ Row w' (some ⟨g, 0, none⟩) n' ys ∧ (g = b ∨ w.heap.size ≤ g) ∧ Below w.heap.size w w'

theorem cells_upto {w : World} {a : Option Addr} {l i : Nat} {A : List Int} (h : Row w a l A) (hi : i ≤ l) : ∀ ad, a = some ad → ∀ t u, ((A.take i).map (Value.int .i64))[t]? = some u → w.cell? (ad.add t) = some u := by
  intro ad had t u hu
  have hA := h.1
  have ht : t < i := by
    have := (List.getElem?_eq_some_iff.1 hu).1
    simp at this; omega
  rcases h.2 with h0 | ⟨b, off, e, hl, hc⟩
  · omega
  · rw [e] at had
    obtain rfl := Option.some.inj had
    rw [Addr.add_mid, hc t (by omega), ← hu]
    simp [ht, show t < A.length by omega]

theorem cells_behind {w : World} {a : Option Addr} {l i : Nat} {A : List Int} (h : Row w a l A) (hi : i < l) : ∀ b off, a = some ⟨b, off, none⟩ → ∀ t u, ((A.drop i).map (Value.int .i64))[t]? = some u → w.cell? ((⟨b, off + i, none⟩ : Addr).add t) = some u := by
  intro b off had t u hu
  have hA := h.1
  have ht : t < l - i := by
    have := (List.getElem?_eq_some_iff.1 hu).1
    simp at this; omega
  rcases h.2 with h0 | ⟨b', off', e, hl, hc⟩
  · omega
  · rw [e] at had
    obtain ⟨rfl, rfl⟩ : b' = b ∧ off' = off := by simpa using had
    rw [Addr.add_mid, Nat.add_assoc, hc (i + t) (by omega), ← hu]
    simp [show i + t < A.length by omega]

theorem ownsRow_row2 {B : Nat} {w : World} {v : Value} {n : Nat} {l : List Int} (hown : w.ownsRow B 3 1 v n (l.map (Value.int .i64))) : ∃ a c, v = .slice a n c ∧ Row w a n l := by
  have hl : l.length = n := by have := hown.1; simpa using this
  rcases hown.2 with ⟨rfl, rfl⟩ | ⟨g, cap, cur, rfl, hb, hh, hnc, _, hsz, ht⟩
  · exact ⟨none, 0, rfl, hl, .inl rfl⟩
  · refine ⟨_, cap, rfl, hl, .inr ⟨g, 0, rfl, (Array.getElem?_eq_some_iff.mp hh).1, fun i hi => ?_⟩⟩
    rw [cell_of_row w g (0 + i) _ _ _ hh, Nat.zero_add]
    have e1 : (cur.toList.take (n * 1))[i]? = some (.int .i64 (l.getD i 0)) := by
      rw [ht]; simp [List.getElem?_map, List.getElem?_eq_getElem (show i < l.length by omega)]
    rw [List.getElem?_take_of_lt (by omega)] at e1
    simpa using e1

theorem putEnd_own {n b m : Nat} {w v : World} {u : Value} {ys : List Int} (hb : Below w.heap.size w v) (hown : v.ownsRow w.heap.size 3 1 u m (ys.map (Value.int .i64))) (hm : 1 ≤ m) (hmn : m ≤ n + 1) : PutEnd n b w (.returned u) v := by
  rcases hown.2 with ⟨_, h0⟩ | ⟨g, cap, cur, rfl, hbg, hh, hnc, hcm, hsz, ht⟩
  · omega
  · obtain ⟨a', c', e, hr⟩ := ownsRow_row2 hown
    obtain ⟨rfl, rfl⟩ : a' = some ⟨g, 0, none⟩ ∧ c' = cap := by simpa [eq_comm] using e
    exact ⟨g, m, _, ys, rfl, hm, hmn, hnc, hcm, hr, .inr hbg, hb⟩

/-- What is there while l1Put builds its list. -/
structure PutSt (w v : World) (u : Value) (m : Nat) (ys : List Int) : Prop where
  own : v.ownsRow w.heap.size 3 1 u m (ys.map (Value.int .i64))
  bel : Below w.heap.size w v

theorem PutSt.first (w : World) : PutSt w (w.alloc (.cells #[] 3)) (.slice (some ⟨w.heap.size, 0, none⟩) 0 0) 0 [] :=
  ⟨⟨rfl, .inr ⟨w.heap.size, 0, #[], rfl, Nat.le_refl _, heap_alloc_new _ _, Nat.le_refl _, Nat.zero_le _, rfl, rfl⟩⟩, below_al w _⟩
theorem PutSt.alloc {w v : World} {u : Value} {m : Nat} {ys : List Int} (h : PutSt w v u m ys) (o : Obj) : PutSt w (v.alloc o) u m ys := ⟨h.own.alloc o, h.bel.trans ((below_al v o).mono h.bel.size)⟩
theorem PutSt.step {w v v' : World} {u u' : Value} {m q : Nat} {ys zs : List Int} (h : PutSt w v u m ys) (r1 : v'.ownsRow w.heap.size 3 1 u' (m + q) (ys.map (Value.int .i64) ++ zs.map (Value.int .i64))) (r2 : v.grownBy v' u.ownBlock) : PutSt w v' u' (m + q) (ys ++ zs) :=
  ⟨by rw [List.map_append]; exact r1, h.bel.grown r2 h.bel.size fun k hk => (h.own.lt k hk).1⟩
theorem PutSt.done {w v : World} {u : Value} {m n b : Nat} {ys : List Int} (h : PutSt w v u m ys) (hm : 1 ≤ m) (hmn : m ≤ n + 1) : PutEnd n b w (.returned u) v := putEnd_own h.bel h.own hm hmn

set_option maxHeartbeats 1000000 in
theorem put_nil (x : Int) (w : World) :
    Calls Try.prog 144 #[.slice none 0 0, .int .i64 x] w fun e w' => PutEnd 0 w.heap.size w e w' := by
  obtain ⟨i0, hi, hz0, hz1, hz2⟩ := info_split Try.info3
  have P0 := hide (PutSt.first w)
  go_enter Try.func144, Try.ntmps144
  go_wp2_with fail
  go_loop [5] (fun i => i = .int .i64 0) (fun _ => 0)
  case atStart => rfl
  case round =>
    obtain rfl := hrel
    go_wp2_with (at_builtin; first
      | (refine wpList_append_any _ rfl (.tmp 34) (.tmp 37) 27 rfl w.heap.size 3 i0 (.int .i64 0) 1 8 Try.underlying27 hi hz0 hz1 hz2 rfl (by decide) (.slice (some ⟨w.heap.size, 0, none⟩) 0 0) 0 [] rfl P0.out.own none 0 0 [] rfl rfl (fun _ => ⟨rfl, rfl⟩) (fun ad h => by cases h) (by simp) (by unfold maxLen; omega) (by omega) (by simp) ?_; intro u1 W1 r1 r2; have P1 := hide ((P0.out.step (q := 0) (zs := []) r1 r2).alloc (.cells #[.int .i64 x] 3)); clear r1 r2)
      | (refine wpList_append_own _ rfl (.tmp 39) (.tmp 41) 27 rfl w.heap.size 3 i0 (.int .i64 0) 1 8 Try.underlying27 hi hz0 hz1 hz2 rfl (by decide) u1 _ _ rfl P1.out.own ⟨W1.heap.size, 0, none⟩ 1 1 [.int .i64 x] rfl rfl (cell_one_new _ _ _) (by simp [Value.oneCell']) (by unfold maxLen; omega) (by omega) (Nat.le_trans P1.out.bel.size (Nat.le_refl _)) ?_; intro u2 W2 r1 r2 _; have P2 := hide (P1.out.step (q := 1) (zs := [x]) r1 r2); clear r1 r2)
      | (refine wpList_append_any _ rfl (.tmp 43) (.tmp 46) 27 rfl w.heap.size 3 i0 (.int .i64 0) 1 8 Try.underlying27 hi hz0 hz1 hz2 rfl (by decide) u2 _ _ rfl P2.out.own none 0 0 [] rfl rfl (fun _ => ⟨rfl, rfl⟩) (fun ad h => by cases h) (by simp) (by unfold maxLen; omega) (by omega) P2.out.bel.size ?_; intro u3 W3 r1 r2; have P3 := hide (P2.out.step (q := 0) (zs := []) r1 r2); clear r1 r2))
    go_ret
    exact P3.out.done (by omega) (by omega)

set_option maxHeartbeats 2000000 in
theorem put_some (b n c : Nat) (xs : List Int) (x : Int) (w : World) (h : Row w (some ⟨b, 0, none⟩) n xs) (hn : n ≤ 1000) (hn1 : 1 ≤ n) (hc : n ≤ c) (hc2 : c ≤ maxLen) :
    Calls Try.prog 144 #[.slice (some ⟨b, 0, none⟩) n c, .int .i64 x] w fun e w' => PutEnd n b w e w' := by
  have HR := hide h
  have hlen := hide h.1
  unfold maxLen at hc2
  clear h
  obtain ⟨i0, hi, hz0, hz1, hz2⟩ := info_split Try.info3
  have P0 := hide (PutSt.first w)
  go_enter Try.func144, Try.ntmps144
  go_wp2_with fail
  go_loop [5] (fun i => ∃ k : Nat, k ≤ n ∧ i = .int .i64 k) (fun i => n - (intOf i).toNat)
  case atStart => exact ⟨0, Nat.zero_le _, rfl⟩
  case round =>
    obtain ⟨k, hk, rfl⟩ := hrel
    have HC1 := hide (fun W (hb : Below w.heap.size w W) => cells_upto (HR.out.below hb) hk _ rfl)
    by_cases hlt : k < n
    · obtain ⟨b1, o1, y, he, hl1, hc1, H1⟩ := HR.out.at hlt
      obtain ⟨rfl, rfl⟩ : b1 = b ∧ o1 = 0 := by simpa [eq_comm] using he
      rw [Nat.zero_add] at hc1
      have hki : (k : Int) < (n : Int) := by omega
      have hkn : k < n := hlt
      have hkc : ¬ c = k := by omega
      have HC2 := hide (fun W (hb : Below w.heap.size w W) => cells_behind (HR.out.below hb) hlt b1 0 rfl)
      rw [Nat.zero_add] at HC2
      clear he hlt
      by_cases hy : y < x
      · go_wp2_with fail
        go_round
        case rel => exact ⟨k + 1, by omega, by go_num⟩
        case measure => simp [intOf]; omega
      · by_cases hy2 : y = x
        · go_wp2_with fail
          go_ret
          exact ⟨b1, n, c, xs, rfl, hn1, by omega, hc, by unfold maxLen; omega, HR.out, .inl rfl, Below.refl _ _⟩
        · go_wp2_with (at_builtin; first
            | (refine wpList_append_any _ rfl (.tmp 34) (.tmp 37) 27 rfl w.heap.size 3 i0 (.int .i64 0) 1 8 Try.underlying27 hi hz0 hz1 hz2 rfl (by decide) (.slice (some ⟨w.heap.size, 0, none⟩) 0 0) 0 [] rfl P0.out.own (some ⟨b1, 0, none⟩) k c ((xs.take k).map (Value.int .i64)) rfl (by have := hlen.out; simp; omega) (fun h => by cases h) (fun ad h => by cases h; exact HC1.out _ P0.out.bel) (ints_oneCell _ _) (by unfold maxLen; omega) (by omega) (by simp) ?_; intro u1 W1 r1 r2; have P1 := hide ((P0.out.step (q := k) (zs := xs.take k) r1 r2).alloc (.cells #[.int .i64 x] 3)); clear r1 r2)
            | (refine wpList_append_own _ rfl (.tmp 39) (.tmp 41) 27 rfl w.heap.size 3 i0 (.int .i64 0) 1 8 Try.underlying27 hi hz0 hz1 hz2 rfl (by decide) u1 _ _ rfl P1.out.own ⟨W1.heap.size, 0, none⟩ 1 1 [.int .i64 x] rfl rfl (cell_one_new _ _ _) (by simp [Value.oneCell']) (by unfold maxLen; omega) (by omega) P1.out.bel.size ?_; intro u2 W2 r1 r2 _; have P2 := hide (P1.out.step (q := 1) (zs := [x]) r1 r2); clear r1 r2)
            | (refine wpList_append_own _ rfl (.tmp 43) (.tmp 46) 27 rfl w.heap.size 3 i0 (.int .i64 0) 1 8 Try.underlying27 hi hz0 hz1 hz2 rfl (by decide) u2 _ _ rfl P2.out.own ⟨b1, k, none⟩ (n - k) (c - k) ((xs.drop k).map (Value.int .i64)) rfl (by have := hlen.out; simp; omega) (HC2.out _ P2.out.bel) (ints_oneCell _ _) (by unfold maxLen; omega) (by omega) P2.out.bel.size ?_; intro u3 W3 r1 r2 _; have P3 := hide (P2.out.step (q := n - k) (zs := xs.drop k) r1 r2); clear r1 r2))
          go_ret
          exact P3.out.done (by omega) (by omega)
    · have hk' : k = n := by omega
      have hki : ¬ (k : Int) < (n : Int) := by omega
      subst hk'
      go_wp2_with (at_builtin; first
        | (refine wpList_append_any _ rfl (.tmp 34) (.tmp 37) 27 rfl w.heap.size 3 i0 (.int .i64 0) 1 8 Try.underlying27 hi hz0 hz1 hz2 rfl (by decide) (.slice (some ⟨w.heap.size, 0, none⟩) 0 0) 0 [] rfl P0.out.own (some ⟨b, 0, none⟩) k c ((xs.take k).map (Value.int .i64)) rfl (by have := hlen.out; simp; omega) (fun h => by cases h) (fun ad h => by cases h; exact HC1.out _ P0.out.bel) (ints_oneCell _ _) (by unfold maxLen; omega) (by omega) (by simp) ?_; intro u1 W1 r1 r2; have P1 := hide ((P0.out.step (q := k) (zs := xs.take k) r1 r2).alloc (.cells #[.int .i64 x] 3)); clear r1 r2)
        | (refine wpList_append_own _ rfl (.tmp 39) (.tmp 41) 27 rfl w.heap.size 3 i0 (.int .i64 0) 1 8 Try.underlying27 hi hz0 hz1 hz2 rfl (by decide) u1 _ _ rfl P1.out.own ⟨W1.heap.size, 0, none⟩ 1 1 [.int .i64 x] rfl rfl (cell_one_new _ _ _) (by simp [Value.oneCell']) (by unfold maxLen; omega) (by omega) P1.out.bel.size ?_; intro u2 W2 r1 r2 _; have P2 := hide (P1.out.step (q := 1) (zs := [x]) r1 r2); clear r1 r2)
        | (refine wpList_append_any _ rfl (.tmp 43) (.tmp 46) 27 rfl w.heap.size 3 i0 (.int .i64 0) 1 8 Try.underlying27 hi hz0 hz1 hz2 rfl (by decide) u2 _ _ rfl P2.out.own _ _ _ [] rfl (by simp) (by intro h; first | cases h | (split at h <;> cases h)) (by intro ad _ j u hu; simp at hu) (by simp) (by unfold maxLen; omega) (by omega) P2.out.bel.size ?_; intro u3 W3 r1 r2; have P3 := hide (P2.out.step (zs := []) r1 r2); clear r1 r2))
      all_goals go_ret
      all_goals exact P3.out.done (by omega) (by omega)
end Go.Proofs.Ytajcmamapmeglaa


/- someOf: some rising numbers in new memory, whatever the bytes; nothing that was there is written but the cursor. -/
namespace Go.Proofs.Ytajcmamapmeglaa
open Go.RowKit
set_option maxRecDepth 10000

/-- A list that is nil, or lies from the head of a block at B or behind. -/
def NewL (B : Nat) (w : World) (a : Option Addr) (n c : Nat) (xs : List Int) : Prop :=
  (a = none ∧ n = 0 ∧ c = 0 ∧ xs = []) ∨ ∃ g, a = some ⟨g, 0, none⟩ ∧ B ≤ g ∧ 1 ≤ n ∧ n ≤ c ∧ c ≤ maxLen ∧ Row w a n xs

theorem NewL.row {B : Nat} {w : World} {a : Option Addr} {n c : Nat} {xs : List Int} (h : NewL B w a n c xs) : Row w a n xs := by
  rcases h with ⟨rfl, rfl, rfl, rfl⟩ | ⟨g, _, _, _, _, _, hr⟩
  · exact ⟨rfl, .inl rfl⟩
  · exact hr

theorem NewL.keep {B : Nat} {w w' : World} {a : Option Addr} {n c : Nat} {xs : List Int} (h : NewL B w a n c xs) (hs : w.heap.size ≤ w'.heap.size) (hk : ∀ g, B ≤ g → g < w.heap.size → (∃ o, a = some o ∧ o.block = g) → w'.heap[g]? = w.heap[g]?) : NewL B w' a n c xs := by
  rcases h with h | ⟨g, rfl, hB, h1, h2, h3, hr⟩
  · exact .inl h
  · refine .inr ⟨g, rfl, hB, h1, h2, h3, hr.1, ?_⟩
    rcases hr.2 with h0 | ⟨b, off, e, hl, hc⟩
    · exact .inl h0
    · obtain ⟨rfl, rfl⟩ : b = g ∧ off = 0 := by simpa [eq_comm] using e
      exact .inr ⟨b, 0, rfl, by omega, fun i hi => (World.cell?_of_block (hk b hB hl ⟨_, rfl, rfl⟩)).trans (hc i hi)⟩

theorem NewL.kept {B bc C : Nat} {w w' : World} {a : Option Addr} {n c : Nat} {xs : List Int} (h : NewL B w a n c xs) (hk : Kept bc C w w') (hC : w.heap.size ≤ C) (hb : bc < B) : NewL B w' a n c xs :=
  h.keep hk.size fun g hg hl _ => hk.block g (by omega) (by omega)
theorem NewL.mono {B C : Nat} {w : World} {a : Option Addr} {n c : Nat} {xs : List Int} (h : NewL B w a n c xs) (hC : C ≤ B) : NewL C w a n c xs := by
  rcases h with h | ⟨g, e, hB, h1⟩
  · exact .inl h
  · exact .inr ⟨g, e, by omega, h1⟩

/-- What is there while someOf draws. -/
structure SomeSt (w v : World) (bc : Nat) (ca : Option Addr) (cn cc p : Nat) (bs : List Int) (u : Value) (m : Nat) : Prop where
  new : ∃ a n c xs, u = .slice a n c ∧ n ≤ m ∧ NewL w.heap.size v a n c xs
  cur : Cur v bc ca cn cc p
  bytes : RowB v ca cn bs
  kept : Kept bc w.heap.size w v

/-- How someOf ends. -/
def SomeEnd (bc : Nat) (ca : Option Addr) (cn cc p : Nat) (bs : List Int) (w : World) (e : Ending) (w' : World) : Prop :=
  ∃ a n c xs p', e = .returned (.slice a n c) ∧ n ≤ 2 ∧ NewL w.heap.size w' a n c xs ∧ p' ≤ p + 3 ∧ Cur w' bc ca cn cc p' ∧ RowB w' ca cn bs ∧ Kept bc w.heap.size w w'

theorem SomeSt.only {w v v' : World} {bc : Nat} {ca : Option Addr} {cn cc p p' : Nat} {bs : List Int} {u : Value} {m : Nat} (h : SomeSt w v bc ca cn cc p bs u m) (ho : OnlyC bc v v') (hc : Cur v' bc ca cn cc p') (hap : Apart ca cn bc) (hb : bc < w.heap.size) : SomeSt w v' bc ca cn cc p' bs u m := by
  obtain ⟨a, n, c, xs, e, hn, hl⟩ := h.new
  exact ⟨⟨a, n, c, xs, e, hn, hl.kept (Kept.of_only (B := v.heap.size) ho) (Nat.le_refl _) hb⟩, hc, h.bytes.keep ho hap, h.kept.trans (Kept.of_only ho)⟩

/-- A put. -/
theorem SomeSt.put {w v : World} {bc : Nat} {ca : Option Addr} {cn cc p : Nat} {bs : List Int} {u : Value} {m : Nat} (h : SomeSt w v bc ca cn cc p bs u m) (hm : m ≤ 100) (x : Int) (hap : Apart ca cn bc) :
    Calls Try.prog 144 #[u, .int .i64 x] v fun e v' => ∃ u', e = .returned u' ∧ SomeSt w v' bc ca cn cc p bs u' (m + 1) := by
  have hcl := h.cur.lt
  have fin : ∀ {n b : Nat} {e : Ending} {v' : World}, n ≤ m → w.heap.size ≤ b → PutEnd n b v e v' → ∃ u', e = .returned u' ∧ SomeSt w v' bc ca cn cc p bs u' (m + 1) := by
    rintro n b e v' hn hgb ⟨g, n', c', ys, rfl, h1, h2, h3, h4, h5, h6, h7⟩
    refine ⟨_, rfl, ⟨_, _, _, ys, rfl, by omega, .inr ⟨g, rfl, ?_, h1, h3, h4, h5⟩⟩, h.cur.below h7 hcl, h.bytes.kept (Kept.of_below h7) hap, h.kept.trans ((Kept.of_below h7).mono h.kept.size)⟩
    have := h.kept.size
    rcases h6 with rfl | h6
    · exact hgb
    · omega
  obtain ⟨a, n, c, xs, rfl, hn, hl⟩ := h.new
  rcases hl with ⟨rfl, rfl, rfl, rfl⟩ | ⟨g, rfl, hB, h1, h2, h3, hr⟩
  · exact (put_nil x v).mono fun e v' he => fin (Nat.zero_le _) h.kept.size he
  · exact (put_some g n c xs x v hr (by omega) h1 h2 h3).mono fun e v' he => fin hn hB he

theorem SomeSt.done {w v : World} {bc : Nat} {ca : Option Addr} {cn cc p q : Nat} {bs : List Int} {u : Value} {m : Nat} (h : SomeSt w v bc ca cn cc q bs u m) (hm : m ≤ 2) (hq : q ≤ p + 3) : SomeEnd bc ca cn cc p bs w (.returned u) v := by
  obtain ⟨a, n, c, xs, rfl, hn, hl⟩ := h.new
  exact ⟨a, n, c, xs, q, rfl, by omega, hl, hq, h.cur, h.bytes, h.kept⟩

set_option maxHeartbeats 1000000 in
theorem some_draw (pl lo : Nat) (bc : Nat) (ca : Option Addr) (cn cc p : Nat) (bs : List Int) (w : World) (h : Cur w bc ca cn cc p) (hr : RowB w ca cn bs) (hap : Apart ca cn bc) (hp : p ≤ 900000) (hn : cn ≤ 1048576) (hpl : 2 ≤ pl) (hpl2 : pl ≤ 200) (hlo : lo ≤ 1) :
    Calls Try.prog 110 #[.pointer (some ⟨bc, 0, none⟩), .int .i64 (pl : Int), .int .i64 (lo : Int), .int .i64 2] w fun e w' => SomeEnd bc ca cn cc p bs w e w' := by
  have hbc := h.lt
  have ST := hide (SomeSt.mk (w := w) (u := .slice none 0 0) (m := 0) ⟨none, 0, 0, [], rfl, Nat.le_refl _, .inl ⟨rfl, rfl, rfl, rfl⟩⟩ h hr (Kept.refl bc _ w))
  have HP := hide (pick_any (3 - lo) bc ca cn cc p bs w h hr (by omega) hn (by omega) (by omega))
  rw [show ((3 - lo : Nat) : Int) = 2 - (lo : Int) + 1 by omega] at HP
  clear h hr
  go_enter Try.func110, Try.ntmps110
  go_wp2_with fail
  refine HP.out.mono ?_
  rintro e v1 ⟨r, rfl, hr, hcur, ho⟩
  have S1 := hide (ST.out.only ho hcur hap hbc)
  clear hcur ho ST HP
  go_wp2_with fail
  go_loopw [9, 10] (fun u i wr => ∃ k q m : Nat, i = .int .i64 k ∧ k + m ≤ 2 ∧ q + k ≤ p + 3 ∧ Hid (SomeSt w wr bc ca cn cc q bs u m)) (fun _ i _ => (intOf i).toNat)
  case atStart => exact ⟨lo + r, p + 1, 0, by go_num, by omega, by omega, S1⟩
  case round =>
    obtain ⟨k, q, m, rfl, hkm, hq, S0⟩ := hrel
    clear S1
    by_cases hlt : 0 < k
    · have hi1 : (0 : Int) < (k : Int) := by omega
      go_wp2_with fail
      refine (pick_any pl bc ca cn cc q bs _ S0.out.cur S0.out.bytes (by omega) hn hpl hpl2).mono ?_
      rintro e v2 ⟨x, rfl, hx, hcur, ho⟩
      have S2 := hide (S0.out.only ho hcur hap hbc)
      clear hcur ho S0
      go_wp2_with fail
      refine (S2.out.put (by omega) _ hap).mono ?_
      rintro e v3 ⟨u', rfl, S3'⟩
      have S3 := hide S3'
      clear S3' S2
      go_wp2_with fail
      go_roundw
      case rel => exact ⟨k - 1, q + 1, m + 1, by go_num, by omega, by omega, S3⟩
      case measure => simp [intOf]; omega
    · have hk0 : k = 0 := by omega
      subst hk0
      go_wp2_with fail
      go_ret
      exact S0.out.done (by omega) (by omega)
end Go.Proofs.Ytajcmamapmeglaa
