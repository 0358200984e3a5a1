/- marked, enables, has and after of the program: which places have a token, and the mark behind a step. -/
import Derived.Test.YtbobppcnmpiacaaNa
namespace Go.Proofs.Ytbobppcnmpiacaa
open Go.RowKit
set_option maxRecDepth 10000

/-- The places among the first k that have a token. -/
def posL (f : Nat → Int) (k : Nat) : List Int := ((List.range k).filter fun i => decide (0 < f i)).map fun (i : Nat) => (i : Int)

theorem posL_succ_yes {f : Nat → Int} {k : Nat} (h : 0 < f k) : posL f (k + 1) = posL f k ++ [(k : Int)] := by simp [posL, List.range_succ, List.filter_append, h]
theorem posL_succ_no {f : Nat → Int} {k : Nat} (h : ¬ 0 < f k) : posL f (k + 1) = posL f k := by simp [posL, List.range_succ, List.filter_append, h]

theorem posL_lt (f : Nat → Int) (k : Nat) (hk : k ≤ 16) : maskL (posL f k) < 2 ^ 16 := by
  refine maskL_lt _ fun x hx => ?_
  unfold posL at hx
  simp at hx
  obtain ⟨i, ⟨h1, h2⟩, rfl⟩ := hx
  omega

theorem posL_or {f : Nat → Int} {k : Nat} (hk : k < 16) (h : 0 < f k) : bits .or .u16 (maskL (posL f k) : Int) (IntKind.u16.wrap (2 ^ k)) = (maskL (posL f (k + 1)) : Int) := by
  have hx2 : 2 ^ k < 2 ^ 16 := Nat.pow_lt_pow_right (by decide) hk
  have hx3 : ((2 : Int) ^ k) = ((2 ^ k : Nat) : Int) := by simp
  rw [hx3, wraps_u16 _ (Int.natCast_nonneg _) (by exact_mod_cast hx2), or_u16 _ _ (posL_lt f k (by omega)) hx2, posL_succ_yes h, maskL_snoc, Int.toNat_natCast]

theorem size_u8 : (Try.prog.info? 5).map (·.size) = some 1 := by kernel_rfl

theorem run_index_t16 (f : Nat → Int) (k : Nat) (hk : k < 16) (w : World) : (Instr.index 68 (.agg (tokF f)) (.int .i64 k)).run Try.prog w = .ok (.int .u8 (f k)) w := by
  have h := tokF_at f k hk
  have h1 : (0 : Int) ≤ (k : Int) ∧ (k : Int) < 16 := by omega
  obtain ⟨i, hi, hs⟩ := Option.map_eq_some_iff.1 size_u8
  simp [Instr.index, run_underlying Try.underlying68, asIntOf, h1, part, isAgg, run_underlying Try.underlying5, sizeOf, typeInfo, hi, hs, h, go_sem]
  omega

set_option maxHeartbeats 1000000 in
theorem markedI_any (f : Nat → Int) (w : World) (hf : ∀ i, 0 ≤ f i ∧ f i ≤ 255) :
    Calls Try.prog 51 #[.agg (tokF f)] w fun e w' => e = .returned (.int .u16 (maskL (posL f 16) : Int)) ∧ w' = w.alloc (.cells (tokF f) 68) := by
  have hg0 := heap_alloc_new w (.cells (tokF f) 68)
  go_enter Try.func51, Try.ntmps51
  go_wp2_with (refine wpList_load_row rfl 68 (.tmp 1) rfl _ rfl 68 (tokF f) (0, 0) _ hg0 Try.underlying68 rfl (by rw [tokF_size]; exact Try.size68) ?_)
  clear hg0
  obtain ⟨v, hv⟩ : ∃ v, Hid (w.alloc (.cells (tokF f) 68) = v) := ⟨_, rfl⟩
  rw [hv.out]
  go_loop [3, 7] (fun s i => ∃ k : Nat, k ≤ 16 ∧ i = .int .i64 k ∧ s = .int .u16 (maskL (posL f k) : Int)) (fun _ i => 16 - (intOf i).toNat)
  case atStart => exact ⟨0, Nat.zero_le _, rfl, rfl⟩
  case round =>
    obtain ⟨k, hk, rfl, rfl⟩ := hrel
    by_cases hlt : k < 16
    rotate_left
    · have hk' : k = 16 := by omega
      subst hk'
      obtain ⟨s, hs⟩ : ∃ s : Nat, Hid (maskL (posL f 16) = s) := ⟨_, rfl⟩
      rw [hs.out]
      go_wp2_with fail
      go_ret
      exact ⟨by rw [hs.out]; rfl, hv.out.symm⟩
    have hat : ∀ w, (Instr.index 68 (.agg (tokF f)) (.int .i64 k)).run Try.prog w = .ok (.int .u8 (f k)) w := fun w => run_index_t16 f k hlt w
    have hi1 : ((k : Int)) < 16 := by omega
    have hi0 : (0 : Int) ≤ (k : Int) := by omega
    have hb := hf k
    by_cases hp : 0 < f k
    · have HM := hide (posL_or hlt hp)
      obtain ⟨x, hx⟩ : ∃ x, Hid (f k = x) := ⟨_, rfl⟩
      rw [hx.out] at hat hb hp
      obtain ⟨mm, hmm⟩ : ∃ s : Nat, Hid (maskL (posL f k) = s) := ⟨_, rfl⟩
      rw [hmm.out] at HM ⊢
      clear hf
      go_wp2_with fail
      go_round
      case rel => exact ⟨k + 1, by omega, by go_num, by rw [← HM.out]⟩
      case measure => simp [intOf]; omega
    · have HM := hide (posL_succ_no hp)
      have hx : f k = 0 := by omega
      rw [hx] at hat
      clear hp hx hb hf
      obtain ⟨mm, hmm⟩ : ∃ s : Nat, Hid (maskL (posL f k) = s) := ⟨_, rfl⟩
      rw [hmm.out]
      go_wp2_with fail
      go_round
      case rel => exact ⟨k + 1, by omega, by go_num, by rw [HM.out, hmm.out]⟩
      case measure => simp [intOf]; omega

theorem andNot_nat (a b : Nat) : bits .andNot .u16 (a : Int) (b : Int) = (((BitVec.ofNat 16 a) &&& ~~~(BitVec.ofNat 16 b)).toNat : Int) := by
  simp only [bits, BitVec.ofInt_natCast]
  refine wraps_u16 _ (Int.natCast_nonneg _) ?_
  have := ((BitVec.ofNat 16 a) &&& ~~~(BitVec.ofNat 16 b)).isLt
  exact_mod_cast this

theorem andNot_zero {a b : Nat} (h : a &&& b = a) : bits .andNot .u16 (a : Int) (b : Int) = 0 := by
  rw [andNot_nat a b]
  have : (BitVec.ofNat 16 a) &&& ~~~(BitVec.ofNat 16 b) = 0#16 := by
    apply BitVec.eq_of_getLsbD_eq
    intro i hi
    have hbit : (a &&& b).testBit i = a.testBit i := by rw [h]
    rw [Nat.testBit_and] at hbit
    rw [BitVec.getLsbD_and, BitVec.getLsbD_not, BitVec.getLsbD_ofNat, BitVec.getLsbD_ofNat]
    cases h1 : a.testBit i
    · simp
    · rw [h1] at hbit
      have : b.testBit i = true := by simpa using hbit
      simp [this, hi]
  rw [this]; rfl

theorem andNot_ne {a b : Nat} (ha : a < 2 ^ 16) (h : ¬ a &&& b = a) : ¬ bits .andNot .u16 (a : Int) (b : Int) = 0 := by
  rw [andNot_nat a b]
  intro e
  apply h
  have e' : (BitVec.ofNat 16 a) &&& ~~~(BitVec.ofNat 16 b) = 0#16 := by
    apply BitVec.eq_of_toNat_eq
    simpa using (by exact_mod_cast e : ((BitVec.ofNat 16 a) &&& ~~~(BitVec.ofNat 16 b)).toNat = 0)
  apply Nat.eq_of_testBit_eq
  intro i
  rw [Nat.testBit_and]
  by_cases hi : i < 16
  · have := congrArg (fun x => BitVec.getLsbD x i) e'
    rw [BitVec.getLsbD_and, BitVec.getLsbD_not, BitVec.getLsbD_ofNat, BitVec.getLsbD_ofNat] at this
    cases h1 : a.testBit i
    · rfl
    · rw [h1] at this
      cases h2 : b.testBit i
      · rw [h2] at this; simp [hi] at this
      · rfl
  · rw [Nat.testBit_lt_two_pow (Nat.lt_of_lt_of_le ha (Nat.pow_le_pow_right (by decide) (by omega)))]; rfl

/-- Whether all bits of one are bits of the other. -/
def subB (a b : Nat) : Bool := decide (a &&& b = a)

set_option maxHeartbeats 400000 in
theorem enables_any (s t0 t1 t2 : Nat) (w : World) (ht : t0 < 2 ^ 16) :
    Calls Try.prog 52 #[.int .u16 (s : Int), .agg #[.int .u16 (t0 : Int), .int .u16 (t1 : Int), .int .u16 (t2 : Int)]] w fun e w' => e = .returned (.bool (subB t0 s)) ∧ w' = w.alloc (.cells #[.int .u16 (t0 : Int), .int .u16 (t1 : Int), .int .u16 (t2 : Int)] 91) := by
  by_cases h : t0 &&& s = t0
  · have HB := hide (show subB t0 s = true by unfold subB; simp [h])
    have hz := andNot_zero h
    go_enter Try.func52, Try.ntmps52
    go_wp2_with fail
    go_ret
    exact ⟨ret_bool HB.out.symm, rfl⟩
  · have HB := hide (show subB t0 s = false by unfold subB; simp [h])
    have hz := andNot_ne ht h
    have hd : (bits .andNot .u16 (t0 : Int) (s : Int) == 0) = false := by simpa using hz
    clear h hz
    go_enter Try.func52, Try.ntmps52
    go_wp2_with fail
    go_ret
    exact ⟨ret_bool (by rw [HB.out]), rfl⟩

theorem bit_of (s k : Nat) (hs : s < 2 ^ 16) : (bits .and .u16 ((s : Int) / 2 ^ k) 1 == 1) = s.testBit k := by
  have h1 : ((s : Int) / 2 ^ k) = ((s / 2 ^ k : Nat) : Int) := by simp
  have h2 : s / 2 ^ k < 2 ^ 16 := Nat.lt_of_le_of_lt (Nat.div_le_self _ _) hs
  have h3 := and_u16 (s / 2 ^ k) 1 h2 (by decide)
  rw [h1]
  rw [show ((1 : Nat) : Int) = (1 : Int) from rfl] at h3
  rw [h3, Nat.and_one_is_mod, Nat.testBit_eq_decide_div_mod_eq]
  by_cases h : s / 2 ^ k % 2 = 1
  · rw [h]; rfl
  · have h4 : s / 2 ^ k % 2 = 0 := by omega
    rw [h4]; rfl

set_option maxHeartbeats 400000 in
theorem hasI_any (s k : Nat) (w : World) (hs : s < 2 ^ 16) (hk : k < 16) :
    Calls Try.prog 80 #[.int .u16 (s : Int), .int .i64 (k : Int)] w fun e w' => e = .returned (.bool (s.testBit k)) ∧ w' = w := by
  have hk0 : (0 : Int) ≤ (k : Int) := by omega
  have HB := hide (bit_of s k hs)
  go_enter Try.func80, Try.ntmps80
  go_wp2_with fail
  go_ret
  exact ⟨ret_bool HB.out, rfl⟩

/-- The number of tokens of a place behind a step. -/
def stepF (s0 s1 s2 : Nat) (f : Nat → Int) (i : Nat) : Int :=
  (if s2.testBit i then 0 else if s0.testBit i then f i - 1 else f i) + (if s1.testBit i then 1 else 0)

/-- The first k places are behind the step. -/
def partF (s0 s1 s2 : Nat) (f : Nat → Int) (k : Nat) : Nat → Int := fun i => if i < k then stepF s0 s1 s2 f i else f i

/-- .. and the place k has v. -/
def midF (s0 s1 s2 : Nat) (f : Nat → Int) (k : Nat) (v : Int) : Nat → Int := fun i => if i = k then v else partF s0 s1 s2 f k i

theorem midF_at (s0 s1 s2 : Nat) (f : Nat → Int) (k : Nat) (hk : k < 16) (v : Int) : (tokF (midF s0 s1 s2 f k v))[k]? = some (.int .u8 v) := by
  rw [tokF_at _ _ hk]; unfold midF; rw [if_pos rfl]

theorem midF_set (s0 s1 s2 : Nat) (f : Nat → Int) (k : Nat) (v v' : Int) : (tokF (midF s0 s1 s2 f k v)).setIfInBounds k (.int .u8 v') = tokF (midF s0 s1 s2 f k v') := by
  refine tokF_set _ _ k _ ?_ fun i hi => ?_
  · unfold midF; rw [if_pos rfl]
  · unfold midF; rw [if_neg hi, if_neg hi]

theorem midF_start (s0 s1 s2 : Nat) (f : Nat → Int) (k : Nat) : partF s0 s1 s2 f k = midF s0 s1 s2 f k (f k) := by
  funext i; unfold midF
  by_cases h : i = k
  · subst h; rw [if_pos rfl]; unfold partF; rw [if_neg (by omega)]
  · rw [if_neg h]

theorem midF_end (s0 s1 s2 : Nat) (f : Nat → Int) (k : Nat) : midF s0 s1 s2 f k (stepF s0 s1 s2 f k) = partF s0 s1 s2 f (k + 1) := by
  funext i; unfold midF partF
  by_cases h : i = k
  · subst h; rw [if_pos rfl, if_pos (by omega)]
  · rw [if_neg h]
    by_cases h2 : i < k
    · rw [if_pos h2, if_pos (by omega)]
    · rw [if_neg h2, if_neg (by omega)]

/-- No place has too many. -/
def capB (s0 s1 s2 : Nat) (f : Nat → Int) (k : Nat) : Bool := (List.range k).all fun i => decide (stepF s0 s1 s2 f i ≤ 50)

theorem capB_no {s0 s1 s2 : Nat} {f : Nat → Int} {k : Nat} (hk : k < 16) (h : 50 < stepF s0 s1 s2 f k) : capB s0 s1 s2 f 16 = false := by
  unfold capB; rw [List.all_eq_false]; exact ⟨k, by simpa using hk, by simpa using h⟩

/-- How after ends. -/
def AfEnd (s0 s1 s2 : Nat) (f : Nat → Int) (w : World) (e : Ending) (w' : World) : Prop :=
  ∃ h, e = .returned (.tuple #[.agg (tokF h), .bool (capB s0 s1 s2 f 16)]) ∧ Hid (capB s0 s1 s2 f 16 = true → h = partF s0 s1 s2 f 16) ∧ Below w.heap.size w w'

theorem zeros_tok : (#[.int .u8 0, .int .u8 0, .int .u8 0, .int .u8 0, .int .u8 0, .int .u8 0, .int .u8 0, .int .u8 0, .int .u8 0, .int .u8 0, .int .u8 0, .int .u8 0, .int .u8 0, .int .u8 0, .int .u8 0, .int .u8 0] : Array Value) = tokF (fun _ => 0) := rfl

theorem afEnd_no {s0 s1 s2 : Nat} {f : Nat → Int} {w w' : World} (h : capB s0 s1 s2 f 16 = false) (hb : Below w.heap.size w w') : AfEnd s0 s1 s2 f w (.returned (.tuple #[.agg #[.int .u8 0, .int .u8 0, .int .u8 0, .int .u8 0, .int .u8 0, .int .u8 0, .int .u8 0, .int .u8 0, .int .u8 0, .int .u8 0, .int .u8 0, .int .u8 0, .int .u8 0, .int .u8 0, .int .u8 0, .int .u8 0], .bool false])) w' :=
  ⟨fun _ => 0, by rw [h, zeros_tok], by rw [h]; intro e; simp at e, hb⟩

theorem afEnd_yes {s0 s1 s2 : Nat} {f : Nat → Int} {w w' : World} (h : capB s0 s1 s2 f 16 = true) (hb : Below w.heap.size w w') : AfEnd s0 s1 s2 f w (.returned (.tuple #[.agg (tokF (partF s0 s1 s2 f 16)), .bool true])) w' :=
  ⟨_, by rw [h], fun _ => rfl, hb⟩

abbrev Zs : Array Value := #[.int .u8 0, .int .u8 0, .int .u8 0, .int .u8 0, .int .u8 0, .int .u8 0, .int .u8 0, .int .u8 0, .int .u8 0, .int .u8 0, .int .u8 0, .int .u8 0, .int .u8 0, .int .u8 0, .int .u8 0, .int .u8 0]

theorem after_res {fn : Func} {q u : Tmp} (hr : fn.results = #[.cell q 68, .tmp u]) (tmps : Array Value) (W : World) (b : Nat) (C : Array Value) (v : Value) (h4 : tmps.getD q undef = .pointer (some ⟨b, 0, none⟩)) (h5 : tmps.getD u undef = v)
    (hs : C.size = 16) (q4 : W.heap[b]? = some (.cells C 68 (0, 0))) : (results fn tmps).run Try.prog W = .ok (.tuple #[.agg C, v]) W := by
  refine (results_cell_tmp hr _ _ _).trans ?_
  rw [h4, h5]
  show ((loadVar 68 ⟨b, 0, none⟩).run Try.prog _).andThen _ = _
  rw [run_loadVar_row _ _ 68 68 C (0, 0) _ q4 Try.underlying68 rfl (by rw [hs]; exact Try.size68)]
  rfl

/-- What the loop of after keeps in mind. -/
structure AfInv (w wr : World) (s0 s1 s2 : Nat) (g : Nat → Int) : Prop where
  st : wr.heap[w.heap.size]? = some (.cells #[.int .u16 (s0 : Int), .int .u16 (s1 : Int), .int .u16 (s2 : Int)] 91 (0, 0))
  tk : wr.heap[w.heap.size + 1]? = some (.cells (tokF g) 68 (0, 0))
  rs : wr.heap[w.heap.size + 1 + 1]? = some (.cells #[.int .u8 0, .int .u8 0, .int .u8 0, .int .u8 0, .int .u8 0, .int .u8 0, .int .u8 0, .int .u8 0, .int .u8 0, .int .u8 0, .int .u8 0, .int .u8 0, .int .u8 0, .int .u8 0, .int .u8 0, .int .u8 0] 68 (0, 0))
  bel : Below w.heap.size w wr

theorem AfInv.set {w wr : World} {s0 s1 s2 : Nat} {f : Nat → Int} {k : Nat} {v : Int} (h : AfInv w wr s0 s1 s2 (midF s0 s1 s2 f k v)) (v' : Int) : AfInv w (wr.setCell ⟨w.heap.size + 1, k, none⟩ (.int .u8 v')) s0 s1 s2 (midF s0 s1 s2 f k v') :=
  ⟨(Below.heap_setCell _ _ _ _ (show w.heap.size ≠ w.heap.size + 1 by omega)).trans h.st, by rw [heap_setCell_same _ _ _ _ _ _ h.tk, midF_set], (Below.heap_setCell _ _ _ _ (show w.heap.size + 1 + 1 ≠ w.heap.size + 1 by omega)).trans h.rs, h.bel.setCell (by simp) _⟩

theorem AfInv.start (w : World) (s0 s1 s2 : Nat) (f : Nat → Int) : AfInv w (((w.alloc (.cells #[.int .u16 (s0 : Int), .int .u16 (s1 : Int), .int .u16 (s2 : Int)] 91)).alloc (.cells (tokF f) 68)).alloc (.cells #[.int .u8 0, .int .u8 0, .int .u8 0, .int .u8 0, .int .u8 0, .int .u8 0, .int .u8 0, .int .u8 0, .int .u8 0, .int .u8 0, .int .u8 0, .int .u8 0, .int .u8 0, .int .u8 0, .int .u8 0, .int .u8 0] 68)) s0 s1 s2 f := by
  refine ⟨?_, ?_, ?_, ((below_al w _).alloc (by simp) _).alloc (by simp; omega) _⟩
  · rw [heap_al_old _ _ _ (by simp; omega), heap_al_old _ _ _ (by simp)]; exact heap_alloc_new _ _
  · rw [heap_al_old _ _ _ (by simp)]
    have := heap_alloc_new (w.alloc (.cells #[.int .u16 (s0 : Int), .int .u16 (s1 : Int), .int .u16 (s2 : Int)] 91)) (.cells (tokF f) 68)
    simpa using this
  · have := heap_alloc_new ((w.alloc (.cells #[.int .u16 (s0 : Int), .int .u16 (s1 : Int), .int .u16 (s2 : Int)] 91)).alloc (.cells (tokF f) 68)) (.cells #[.int .u8 0, .int .u8 0, .int .u8 0, .int .u8 0, .int .u8 0, .int .u8 0, .int .u8 0, .int .u8 0, .int .u8 0, .int .u8 0, .int .u8 0, .int .u8 0, .int .u8 0, .int .u8 0, .int .u8 0, .int .u8 0] 68)
    simpa using this

set_option maxHeartbeats 1000000 in
theorem after_any (s0 s1 s2 : Nat) (f : Nat → Int) (w : World) (h0 : s0 < 2 ^ 16) (h1 : s1 < 2 ^ 16) (h2 : s2 < 2 ^ 16) (hf : ∀ i, 0 ≤ f i ∧ f i ≤ 50) (hen : ∀ i, s0.testBit i = true → 0 < f i) :
    Calls Try.prog 76 #[.agg #[.int .u16 (s0 : Int), .int .u16 (s1 : Int), .int .u16 (s2 : Int)], .agg (tokF f)] w fun e w' => AfEnd s0 s1 s2 f w e w' := by
  have HF := hide hf
  have HEN := hide hen
  have HI := hide (AfInv.start w s0 s1 s2 f)
  clear hf hen
  go_enter Try.func76, Try.ntmps76
  go_wp2_with fail
  generalize ((w.alloc (.cells #[.int .u16 (s0 : Int), .int .u16 (s1 : Int), .int .u16 (s2 : Int)] 91)).alloc (.cells (tokF f) 68)).alloc (.cells #[.int .u8 0, .int .u8 0, .int .u8 0, .int .u8 0, .int .u8 0, .int .u8 0, .int .u8 0, .int .u8 0, .int .u8 0, .int .u8 0, .int .u8 0, .int .u8 0, .int .u8 0, .int .u8 0, .int .u8 0, .int .u8 0] 68) = V0 at *
  go_loopw [7] (fun i wr => ∃ k : Nat, k ≤ 16 ∧ i = .int .i64 k ∧ Hid (capB s0 s1 s2 f k = true) ∧ Hid (AfInv w wr s0 s1 s2 (partF s0 s1 s2 f k))) (fun i _ => 16 - (intOf i).toNat)
  case atStart => exact ⟨0, Nat.zero_le _, rfl, rfl, by rw [show partF s0 s1 s2 f 0 = f from by funext i; unfold partF; rw [if_neg (by omega)]]; exact HI⟩
  case round =>
    obtain ⟨k, hk, rfl, hu, hin⟩ := hrel
    clear HI
    by_cases hlt : k < 16
    rotate_left
    · have hk' : k = 16 := by omega
      subst hk'
      have hg1 := hin.out.tk
      have hg2 := hin.out.rs
      go_wp2_with (first
        | refine wpList_load_row rfl 68 (.tmp 3) rfl _ rfl 68 (tokF (partF s0 s1 s2 f 16)) (0, 0) _ hg1 Try.underlying68 rfl (by rw [tokF_size]; exact Try.size68) ?_
        | refine wpList_store_row rfl 68 (.tmp 4) _ rfl _ _ rfl rfl 68 _ hg2 (by rw [tokF_size]; exact Try.size68) (by rw [tokF_size]; rfl) (tokF_one _) ?_)
      refine bodyPost_ret (v := .tuple #[.agg (tokF (partF s0 s1 s2 f 16)), .bool true]) ?_ rfl (afEnd_yes hu.out (below_setRow hin.out.bel _ (by omega) _))
      exact after_res Try.results76 _ _ (w.heap.size + 1 + 1) _ (.bool true) rfl rfl (tokF_size _) (setRow_same hg2 _)
    have hx := HF.out k
    have hxe := HEN.out k
    have HST : Hid (stepF s0 s1 s2 f k = (if s2.testBit k then 0 else if s0.testBit k then f k - 1 else f k) + (if s1.testBit k then 1 else 0)) := rfl
    have HEND := hide (midF_end s0 s1 s2 f k)
    rw [midF_start] at hin
    obtain ⟨x, hxq⟩ : ∃ x, Hid (f k = x) := ⟨_, rfl⟩
    rw [hxq.out] at hx hxe HST hin
    have hi1 : ((k : Int)) < 16 := by omega
    have hi0 : (0 : Int) ≤ (k : Int) := by omega
    have hc0 := cell_of_row wr w.heap.size 0 _ _ _ hin.out.st
    have hc1 := cell_of_row wr w.heap.size 1 _ _ _ hin.out.st
    have hc2 := cell_of_row wr w.heap.size 2 _ _ _ hin.out.st
    simp at hc0 hc1 hc2
    have hct := cell_of_row wr (w.heap.size + 1) k _ _ _ hin.out.tk
    rw [midF_at s0 s1 s2 f k hlt] at hct
    have hfr := frozen_of_row wr (w.heap.size + 1) k _ _ hin.out.tk
    clear HF HEN hk
    cases hb0 : s0.testBit k <;> cases hb1 : s1.testBit k <;> cases hb2 : s2.testBit k
    all_goals rw [hb0, hb1, hb2] at HST
    all_goals rw [hb0] at hxe
    · have HY : Hid (stepF s0 s1 s2 f k = x) := by show _ = _; rw [HST.out]; simp
      have HU : Hid (capB s0 s1 s2 f (k + 1) = true) := all_range_succ (f := fun i => decide (stepF s0 s1 s2 f i ≤ 50)) hu.out (by rw [HY.out, decide_eq_true_eq]; omega)
      have HQ := hide hin.out
      rw [show midF s0 s1 s2 f k (x) = partF s0 s1 s2 f (k + 1) by rw [← HEND.out, HY.out]] at HQ
      clear hu hxe HST HEND HY hin
      obtain ⟨hx1, hx2⟩ := hx
      go_wp2_with (go_at_call 80; refine (hasI_any _ k _ (by assumption) hlt).mono ?_; rintro e w' ⟨rfl, rfl⟩)
      go_roundw
      case rel => exact ⟨k + 1, by omega, by go_num, HU, HQ⟩
      case measure => simp [intOf]; omega
    · have HY : Hid (stepF s0 s1 s2 f k = 0) := by show _ = _; rw [HST.out]; simp
      have HU : Hid (capB s0 s1 s2 f (k + 1) = true) := all_range_succ (f := fun i => decide (stepF s0 s1 s2 f i ≤ 50)) hu.out (by rw [HY.out, decide_eq_true_eq]; omega)
      have HQ := hide (hin.out.set (0))
      rw [show midF s0 s1 s2 f k (0) = partF s0 s1 s2 f (k + 1) by rw [← HEND.out, HY.out]] at HQ
      clear hu hxe HST HEND HY hin
      obtain ⟨hx1, hx2⟩ := hx
      go_wp2_with (go_at_call 80; refine (hasI_any _ k _ (by assumption) hlt).mono ?_; rintro e w' ⟨rfl, rfl⟩)
      go_roundw
      case rel => exact ⟨k + 1, by omega, by go_num, HU, HQ⟩
      case measure => simp [intOf]; omega
    · have HY : Hid (stepF s0 s1 s2 f k = x + 1) := by show _ = _; rw [HST.out]; simp
      have HQ := hide (hin.out.set (x + 1))
      by_cases h51 : 50 < x + 1
      · have HN := hide (capB_no hlt (show 50 < stepF s0 s1 s2 f k by rw [HY.out]; exact h51))
        have hg2 := HQ.out.rs
        clear hu hxe HST HEND HY hin
        obtain ⟨hx1, hx2⟩ := hx
        go_wp2_with (first
          | (go_at_call 80; refine (hasI_any _ k _ (by assumption) hlt).mono ?_; rintro e w' ⟨rfl, rfl⟩)
          | refine wpList_store_row rfl 68 (.tmp 4) _ rfl _ _ rfl rfl 68 _ hg2 Try.size68 rfl lit_one ?_)
        refine bodyPost_ret (v := .tuple #[.agg #[.int .u8 0, .int .u8 0, .int .u8 0, .int .u8 0, .int .u8 0, .int .u8 0, .int .u8 0, .int .u8 0, .int .u8 0, .int .u8 0, .int .u8 0, .int .u8 0, .int .u8 0, .int .u8 0, .int .u8 0, .int .u8 0], .bool false]) ?_ rfl (afEnd_no HN.out (below_setRow HQ.out.bel _ (by omega) _))
        exact after_res Try.results76 _ _ (w.heap.size + 1 + 1) _ (.bool false) rfl rfl rfl (setRow_same hg2 _)
      have HU : Hid (capB s0 s1 s2 f (k + 1) = true) := all_range_succ (f := fun i => decide (stepF s0 s1 s2 f i ≤ 50)) hu.out (by rw [HY.out, decide_eq_true_eq]; omega)
      rw [show midF s0 s1 s2 f k (x + 1) = partF s0 s1 s2 f (k + 1) by rw [← HEND.out, HY.out]] at HQ
      clear hu hxe HST HEND HY hin
      obtain ⟨hx1, hx2⟩ := hx
      go_wp2_with (go_at_call 80; refine (hasI_any _ k _ (by assumption) hlt).mono ?_; rintro e w' ⟨rfl, rfl⟩)
      go_roundw
      case rel => exact ⟨k + 1, by omega, by go_num, HU, HQ⟩
      case measure => simp [intOf]; omega
    · have HY : Hid (stepF s0 s1 s2 f k = 1) := by show _ = _; rw [HST.out]; simp
      have HU : Hid (capB s0 s1 s2 f (k + 1) = true) := all_range_succ (f := fun i => decide (stepF s0 s1 s2 f i ≤ 50)) hu.out (by rw [HY.out, decide_eq_true_eq]; omega)
      have HQ := hide ((hin.out.set (0)).set (1))
      rw [show midF s0 s1 s2 f k (1) = partF s0 s1 s2 f (k + 1) by rw [← HEND.out, HY.out]] at HQ
      clear hu hxe HST HEND HY hin
      obtain ⟨hx1, hx2⟩ := hx
      go_wp2_with (go_at_call 80; refine (hasI_any _ k _ (by assumption) hlt).mono ?_; rintro e w' ⟨rfl, rfl⟩)
      go_roundw
      case rel => exact ⟨k + 1, by omega, by go_num, HU, HQ⟩
      case measure => simp [intOf]; omega
    · have HY : Hid (stepF s0 s1 s2 f k = x - 1) := by show _ = _; rw [HST.out]; simp
      have hx3 : 0 < x := hxe rfl
      have HU : Hid (capB s0 s1 s2 f (k + 1) = true) := all_range_succ (f := fun i => decide (stepF s0 s1 s2 f i ≤ 50)) hu.out (by rw [HY.out, decide_eq_true_eq]; omega)
      have HQ := hide (hin.out.set (x - 1))
      rw [show midF s0 s1 s2 f k (x - 1) = partF s0 s1 s2 f (k + 1) by rw [← HEND.out, HY.out]] at HQ
      clear hu hxe HST HEND HY hin
      obtain ⟨hx1, hx2⟩ := hx
      go_wp2_with (go_at_call 80; refine (hasI_any _ k _ (by assumption) hlt).mono ?_; rintro e w' ⟨rfl, rfl⟩)
      go_roundw
      case rel => exact ⟨k + 1, by omega, by go_num, HU, HQ⟩
      case measure => simp [intOf]; omega
    · have HY : Hid (stepF s0 s1 s2 f k = 0) := by show _ = _; rw [HST.out]; simp
      have hx3 : 0 < x := hxe rfl
      have HU : Hid (capB s0 s1 s2 f (k + 1) = true) := all_range_succ (f := fun i => decide (stepF s0 s1 s2 f i ≤ 50)) hu.out (by rw [HY.out, decide_eq_true_eq]; omega)
      have HQ := hide ((hin.out.set (x - 1)).set (0))
      rw [show midF s0 s1 s2 f k (0) = partF s0 s1 s2 f (k + 1) by rw [← HEND.out, HY.out]] at HQ
      clear hu hxe HST HEND HY hin
      obtain ⟨hx1, hx2⟩ := hx
      go_wp2_with (go_at_call 80; refine (hasI_any _ k _ (by assumption) hlt).mono ?_; rintro e w' ⟨rfl, rfl⟩)
      go_roundw
      case rel => exact ⟨k + 1, by omega, by go_num, HU, HQ⟩
      case measure => simp [intOf]; omega
    · have HY : Hid (stepF s0 s1 s2 f k = x) := by show _ = _; rw [HST.out]; simp
      have hx3 : 0 < x := hxe rfl
      have HU : Hid (capB s0 s1 s2 f (k + 1) = true) := all_range_succ (f := fun i => decide (stepF s0 s1 s2 f i ≤ 50)) hu.out (by rw [HY.out, decide_eq_true_eq]; omega)
      have HQ := hide ((hin.out.set (x - 1)).set (x))
      rw [show midF s0 s1 s2 f k (x) = partF s0 s1 s2 f (k + 1) by rw [← HEND.out, HY.out]] at HQ
      clear hu hxe HST HEND HY hin
      obtain ⟨hx1, hx2⟩ := hx
      go_wp2_with (go_at_call 80; refine (hasI_any _ k _ (by assumption) hlt).mono ?_; rintro e w' ⟨rfl, rfl⟩)
      go_roundw
      case rel => exact ⟨k + 1, by omega, by go_num, HU, HQ⟩
      case measure => simp [intOf]; omega
    · have HY : Hid (stepF s0 s1 s2 f k = 1) := by show _ = _; rw [HST.out]; simp
      have hx3 : 0 < x := hxe rfl
      have HU : Hid (capB s0 s1 s2 f (k + 1) = true) := all_range_succ (f := fun i => decide (stepF s0 s1 s2 f i ≤ 50)) hu.out (by rw [HY.out, decide_eq_true_eq]; omega)
      have HQ := hide (((hin.out.set (x - 1)).set (0)).set (1))
      have hct3 := cell_of_row _ (w.heap.size + 1) k _ _ _ HQ.out.tk
      rw [midF_at s0 s1 s2 f k hlt] at hct3
      rw [show midF s0 s1 s2 f k (1) = partF s0 s1 s2 f (k + 1) by rw [← HEND.out, HY.out]] at HQ
      clear hu hxe HST HEND HY hin
      obtain ⟨hx1, hx2⟩ := hx
      go_wp2_with (go_at_call 80; refine (hasI_any _ k _ (by assumption) hlt).mono ?_; rintro e w' ⟨rfl, rfl⟩)
      go_roundw
      case rel => exact ⟨k + 1, by omega, by go_num, HU, HQ⟩
      case measure => simp [intOf]; omega
end Go.Proofs.Ytbobppcnmpiacaa
