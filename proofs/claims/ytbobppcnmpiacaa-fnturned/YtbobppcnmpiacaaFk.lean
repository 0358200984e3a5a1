/- The program's Fire, for every net, mark and number in memory. -/
import Derived.Test.YtbobppcnmpiacaaFj
namespace Go.Proofs.Ytbobppcnmpiacaa
open Go.RowKit
set_option maxRecDepth 10000

/-- A list in a block of its own and a bool; nothing that was there is written. -/
def LEnd (g : Bool) (r : List Int) (w : World) (e : Ending) (w' : World) : Prop :=
  ∃ a b n, e = .returned (.tuple #[.slice a n n, .bool g]) ∧ Blk w' a b n r ∧ w.heap.size ≤ b ∧ Below w.heap.size w w'

theorem lend_no {p : Int} {n : Nat} {L : List (List Int)} {ys : List Int} {t : Int} {w w' : World} (h : fireOk p n L ys t = false) (hb : Below w.heap.size w w') : LEnd (fireOk p n L ys t) (fireR p n L ys t) w (.returned (.tuple #[.slice none 0 0, .bool false])) w' := by
  refine ⟨none, w.heap.size, 0, by rw [h], ⟨?_, .inl rfl⟩, Nat.le_refl _, hb⟩
  unfold fireR; rw [h]; rfl

theorem lend_yes {p : Int} {n : Nat} {L : List (List Int)} {ys : List Int} {t : Int} {w w' : World} {b m : Nat} (h : fireOk p n L ys t = true) (hl : (firedL L ys t).length = m) (hh : w'.heap[b]? = some (.cells (cellsOf (firedL L ys t)) 3 (0, 0))) (hB : w.heap.size ≤ b) (hb : Below w.heap.size w w') :
    LEnd (fireOk p n L ys t) (fireR p n L ys t) w (.returned (.tuple #[.slice (some ⟨b, 0, none⟩) m m, .bool true])) w' := by
  have hr : fireR p n L ys t = firedL L ys t := by unfold fireR; rw [h]; rfl
  exact ⟨_, b, m, by rw [h], ⟨by rw [hr]; exact hl, .inr ⟨rfl, by rw [hr]; exact hh⟩⟩, hB, hb⟩

theorem fireL_len (x0 x1 x2 ys : List Int) : (fireL x0 x1 x2 ys).length = ys.length := by unfold fireL; rw [updL_len, updL_len, updL_len]

/-- By sets as by lists. -/
theorem fire_eq {p : Int} {n nm : Nat} {L : List (List Int)} {ys : List Int} {t : Int} (hnet : netOk p n L = true) (hg : goodB p ys = true) (hl : ys.length = nm) :
    fireB n L (fOf ys nm) t = fireOk p n L ys t ∧ (fireOk p n L ys t = true → listF (partF (maskL (inOf L t)) (maskL (outOf L t)) (maskL (resOf L t)) (fOf ys nm) 16) nm = firedL L ys t) := by
  obtain ⟨hp, hlp, hy⟩ := goodB_parts hg
  have hnm : (nm : Int) = p := by omega
  unfold fireB fireOk
  rw [hnet, hg]
  by_cases g2 : inB t 0 ((n : Int) - 1) = true
  rotate_left
  · have g2' : inB t 0 ((n : Int) - 1) = false := by simpa using g2
    rw [g2']; exact ⟨rfl, fun h => by simp at h⟩
  have ht : 0 ≤ t ∧ t ≤ (n : Int) - 1 := by simpa [inB] using g2
  have htri := tri_rise (triOkOf hnet (show t.toNat < n by omega))
  obtain ⟨h0, h1, h2⟩ := htri
  have e1 := can_sub (x0 := inOf L t) hp hnm hy h0
  rw [g2, e1]
  by_cases hc : canB (inOf L t) ys = true
  · have e2 := good_cap (x0 := inOf L t) (x1 := outOf L t) (x2 := resOf L t) hp hnm hl hy h0 h1 h2 hc
    refine ⟨?_, fun _ => list_fire (x0 := inOf L t) (x1 := outOf L t) (x2 := resOf L t) hp hnm hl h0 h1 h2⟩
    unfold firedL; rw [e2, hc]; rfl
  · have hc' : canB (inOf L t) ys = false := by simpa using hc
    rw [hc']; exact ⟨rfl, fun h => by simp at h⟩

theorem partF_small {s0 s1 s2 : Nat} {f : Nat → Int} (hf : ∀ i, 0 ≤ f i ∧ f i ≤ 50) (hen : ∀ i, s0.testBit i = true → 0 < f i) (k i : Nat) : 0 ≤ partF s0 s1 s2 f k i ∧ partF s0 s1 s2 f k i ≤ 255 := by
  have h1 := hf i
  have h2 := hen i
  unfold partF stepF
  split
  · cases h3 : s0.testBit i
    · simp only [Bool.false_eq_true, if_false]
      (repeat' split) <;> omega
    · have := h2 h3
      simp only [if_true]
      (repeat' split) <;> omega
  · omega

set_option maxHeartbeats 2000000 in
theorem implFire_any (p : Int) (a am : Option Addr) (n c nm cm : Nat) (L : List (List Int)) (ys : List Int) (t : Int) (w : World) (h : Lists w a (3 * n) L) (rm : Row w am nm ys) (hs : sizeN n L ≤ 1048576) (hnm : nm ≤ 1048576) :
    Calls Try.prog 14 #[.agg #[.int .i64 p, .slice a n c], .slice am nm cm, .int .i64 t] w fun e w' => LEnd (fireOk p n L ys t) (fireR p n L ys t) w e w' := by
  have hAl := below_al w (.cells #[.int .i64 p, .slice a n c] 26)
  have HT := hide (netTok_any p a am n c nm cm L ys _ (h.below hAl) (rm.below hAl) hs hnm)
  have HLY := hide rm.1
  have HB0 := hide hAl
  clear h rm hAl
  go_enter Try.func14, Try.ntmps14
  go_wp2_with fail
  refine HT.out.mono ?_
  rintro e w1 ⟨p', a', m', c', l, rfl, hx, hb⟩
  have hz := HB0.out.size
  have HB1 := hide (HB0.out.trans (hb.mono HB0.out.size))
  have hz1 := HB1.out.size
  have hA1 := below_al w1 (.cells #[.int .i64 p', .slice a' m' c'] 66)
  have hA2 := below_al (w1.alloc (.cells #[.int .i64 p', .slice a' m' c'] 66)) (.cells #[.int .u8 0, .int .u8 0, .int .u8 0, .int .u8 0, .int .u8 0, .int .u8 0, .int .u8 0, .int .u8 0, .int .u8 0, .int .u8 0, .int .u8 0, .int .u8 0, .int .u8 0, .int .u8 0, .int .u8 0, .int .u8 0] 68)
  have hs1 : (w1.alloc (.cells #[.int .i64 p', .slice a' m' c'] 66)).heap.size = w1.heap.size + 1 := by simp
  have hg0 := heap_alloc_new (w1.alloc (.cells #[.int .i64 p', .slice a' m' c'] 66)) (.cells #[.int .u8 0, .int .u8 0, .int .u8 0, .int .u8 0, .int .u8 0, .int .u8 0, .int .u8 0, .int .u8 0, .int .u8 0, .int .u8 0, .int .u8 0, .int .u8 0, .int .u8 0, .int .u8 0, .int .u8 0, .int .u8 0] 68)
  rw [hs1] at hg0
  clear hb HT HB0
  by_cases g1 : (netOk p n L && goodB p ys) = true
  rotate_left
  · have g1' : (netOk p n L && goodB p ys) = false := by simpa using g1
    have HN := hide (fun W (hW : Below w.heap.size w W) => lend_no (w := w) (fireOk_no1 (t := t) g1') hW)
    rw [g1']
    have HBX := hide (below_setRow ((HB1.out.alloc HB1.out.size (.cells #[.int .i64 p', .slice a' m' c'] 66)).alloc (by simp; omega) (.cells #[.int .u8 0, .int .u8 0, .int .u8 0, .int .u8 0, .int .u8 0, .int .u8 0, .int .u8 0, .int .u8 0, .int .u8 0, .int .u8 0, .int .u8 0, .int .u8 0, .int .u8 0, .int .u8 0, .int .u8 0, .int .u8 0] 68)) (w1.heap.size + 1) (by omega) (packOf ys l))
    clear g1 g1' hx
    go_wp2_with (refine wpList_store_row rfl 68 _ _ rfl _ _ rfl rfl 68 _ hg0 (by rw [packOf_size]; exact Try.size68) (by rw [packOf_size]; rfl) (packOf_one _ _) ?_)
    go_ret2
    exact HN.out _ HBX.out
  have hgg := g1
  rw [Bool.and_eq_true] at hgg
  obtain ⟨e1, e2, e3, e4, B, e5, e6, e7⟩ := hx.out g1
  subst e1 e2 e3 e4 e5
  rw [g1]
  have hAA := hA1.trans (hA2.mono hA1.size)
  have HPS := hide ((e7.grow hAA).setRow (show B ≠ w1.heap.size + 1 by obtain ⟨C, q1, _⟩ := e7; have := (Array.getElem?_eq_some_iff.mp q1).1; omega) (packOf ys l))
  have hg1 := setRow_same hg0 (packOf ys l)
  have HBX := hide (below_setRow (HB1.out.trans (hAA.mono HB1.out.size)) (w1.heap.size + 1) (by omega) (packOf ys l))
  have Q7 := keepR (keep (heap_alloc_new w1 (.cells #[.int .i64 p', .slice (some ⟨B, 0, none⟩) c' c'] 66)) hA2) (show w1.heap.size ≠ w1.heap.size + 1 by omega) (packOf ys l)
  obtain ⟨hq0, hq1⟩ := cells2 Q7
  have HQ7 := hide Q7
  have HGP := hide hgg
  clear e6 e7 hx hAA hA1 hA2 g1 hgg Q7
  go_wp2_with (first
    | refine wpList_store_row rfl 68 _ _ rfl _ _ rfl rfl 68 _ hg0 (by rw [packOf_size]; exact Try.size68) (by rw [packOf_size]; rfl) (packOf_one _ _) ?_
    | refine wpList_load_row rfl 68 _ rfl _ rfl 68 (packOf ys l) (0, 0) _ hg1 Try.underlying68 rfl (by rw [packOf_size]; exact Try.size68) ?_)
  obtain ⟨⟨hp1, hp2⟩, hlp, hyb⟩ := goodB_parts HGP.out.2
  have hfs : ∀ i, 0 ≤ fOf ys l i ∧ fOf ys l i ≤ 50 := by
    intro i; unfold fOf; split
    · exact hyb i
    · omega
  have HEQ := hide (fire_eq (t := t) HGP.out.1 HGP.out.2 HLY.out)
  have HFS := hide hfs
  obtain ⟨V, hV⟩ : ∃ V, Hid ((((w1.alloc (.cells #[.int .i64 p', .slice (some ⟨B, 0, none⟩) c' c'] 66)).alloc (.cells #[.int .u8 0, .int .u8 0, .int .u8 0, .int .u8 0, .int .u8 0, .int .u8 0, .int .u8 0, .int .u8 0, .int .u8 0, .int .u8 0, .int .u8 0, .int .u8 0, .int .u8 0, .int .u8 0, .int .u8 0, .int .u8 0] 68)).setRow (w1.heap.size + 1) (packOf ys l)) = V) := ⟨_, rfl⟩
  rw [hV.out] at HPS HBX HQ7 ⊢
  have HFI := hide (fireI_any p' t B c' c' L (fOf ys l) V HPS.out HGP.out.1 ⟨hp1, hp2⟩ hfs)
  clear hq0 hq1 hg0 hg1 hs1 hfs hyb hV
  refine HFI.out.mono ?_
  rintro e w2 ⟨h, rfl, hh, hb2⟩
  rw [HEQ.out.1] at hh ⊢
  have hA3 := below_al w2 (.cells #[.int .u8 0, .int .u8 0, .int .u8 0, .int .u8 0, .int .u8 0, .int .u8 0, .int .u8 0, .int .u8 0, .int .u8 0, .int .u8 0, .int .u8 0, .int .u8 0, .int .u8 0, .int .u8 0, .int .u8 0, .int .u8 0] 68)
  have hg0 := heap_alloc_new w2 (.cells #[.int .u8 0, .int .u8 0, .int .u8 0, .int .u8 0, .int .u8 0, .int .u8 0, .int .u8 0, .int .u8 0, .int .u8 0, .int .u8 0, .int .u8 0, .int .u8 0, .int .u8 0, .int .u8 0, .int .u8 0, .int .u8 0] 68)
  have hg1 := setRow_same hg0 (tokF h)
  have hz7 := row_lt HQ7.out
  have hz2 := hb2.size
  have hvs := HBX.out.size
  have Q8 := keepR (keep (keep HQ7.out hb2) hA3) (show w1.heap.size ≠ w2.heap.size by omega) (tokF h)
  obtain ⟨hq0, hq1⟩ := cells2 Q8
  have HB3 := hide (below_setRow ((HBX.out.trans (hb2.mono HBX.out.size)).trans (hA3.mono (by omega))) w2.heap.size (by omega) (tokF h))
  clear HFI hb2 hA3 Q8 HPS
  by_cases g : fireOk p' c' L ys t = true
  rotate_left
  · have g' : fireOk p' c' L ys t = false := by simpa using g
    have HN := hide (lend_no (w := w) g' HB3.out)
    rw [g']
    clear g g' hh
    go_wp2_with (refine wpList_store_row rfl 68 _ _ rfl _ _ rfl rfl 68 _ hg0 (by rw [tokF_size]; exact Try.size68) (by rw [tokF_size]; rfl) (tokF_one _) ?_)
    go_ret2
    exact HN.out
  have hh2 := hh.out g
  have HG := hide g
  rw [g]
  subst hh2
  have hpl : p' = (l : Int) := by have := HLY.out; omega
  subst hpl
  have hl16 : l ≤ 16 := by omega
  have HSM : Hid (∀ i, 0 ≤ partF (maskL (inOf L t)) (maskL (outOf L t)) (maskL (resOf L t)) (fOf ys l) 16 i ∧ partF (maskL (inOf L t)) (maskL (outOf L t)) (maskL (resOf L t)) (fOf ys l) 16 i ≤ 255) := by
    refine fun i => partF_small HFS.out (fun j hj => ?_) 16 i
    have hb := HEQ.out.1.trans HG.out
    unfold fireB at hb
    simp only [Bool.and_eq_true] at hb
    have := sub_iff.mp hb.1.2 j hj
    rw [posL_bit] at this
    simp only [Bool.and_eq_true, decide_eq_true_eq] at this
    exact this.2
  have HLF := hide (HEQ.out.2 HG.out)
  clear g hh
  obtain ⟨F, hF⟩ : ∃ F, Hid (partF (maskL (inOf L t)) (maskL (outOf L t)) (maskL (resOf L t)) (fOf ys l) 16 = F) := ⟨_, rfl⟩
  rw [hF.out] at hg1 hq0 hq1 HB3 HSM HLF ⊢
  go_wp2_with (first
    | refine wpList_store_row rfl 68 _ _ rfl _ _ rfl rfl 68 _ hg0 (by rw [tokF_size]; exact Try.size68) (by rw [tokF_size]; rfl) (tokF_one _) ?_
    | refine wpList_load_row rfl 68 _ rfl _ rfl 68 (tokF F) (0, 0) _ hg1 Try.underlying68 rfl (by rw [tokF_size]; exact Try.size68) ?_)
  obtain ⟨V2, hV2⟩ : ∃ V2, Hid ((w2.alloc (.cells #[.int .u8 0, .int .u8 0, .int .u8 0, .int .u8 0, .int .u8 0, .int .u8 0, .int .u8 0, .int .u8 0, .int .u8 0, .int .u8 0, .int .u8 0, .int .u8 0, .int .u8 0, .int .u8 0, .int .u8 0, .int .u8 0] 68)).setRow w2.heap.size (tokF F) = V2) := ⟨_, rfl⟩
  rw [hV2.out] at HB3 ⊢
  have HLS := hide (list_any F l V2 hl16 HSM.out)
  clear hg0 hg1 hq0 hq1 hV2
  rw [HLF.out] at HLS
  refine HLS.out.mono ?_
  rintro e w3 ⟨rfl, rfl⟩
  have HY := hide (lend_yes (w := w) (b := V2.heap.size + 1) (m := l) HG.out (by unfold firedL; rw [fireL_len]; exact HLY.out) (heap_alloc2_new V2 (.cells (tokF F) 68) (.cells (cellsOf (firedL L ys t)) 3)) (by have := HB3.out.size; omega) (HB3.out.trans ((below_two V2 (.cells (tokF F) 68) (.cells (cellsOf (firedL L ys t)) 3)).mono HB3.out.size)))
  clear HLS
  go_wp2_with fail
  go_ret2
  exact HY.out
end Go.Proofs.Ytbobppcnmpiacaa
