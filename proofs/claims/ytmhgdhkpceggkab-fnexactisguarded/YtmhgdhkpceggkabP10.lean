/- Contracts that the proof stands on, one behind the other. -/
import Derived.Test.YtmhgdhkpceggkabP9
/- marked, enables, has and after of the program: which places have a token, and the mark behind a step. -/
namespace Go.Proofs.Ytmhgdhkpceggkab
open Go.RowKit
set_option maxRecDepth 10000

/-- The places among the first k that have a token. -/
def posL (f : Nat → Int) (k : Nat) : List Int := ((List.range k).filter fun i => decide (0 < f i)).map fun (i : Nat) => (i : Int)

theorem posL_succ_yes {f : Nat → Int} {k : Nat} (h : 0 < f k) : posL f (k + 1) = posL f k ++ [(k : Int)] := by simp [posL, List.range_succ, List.filter_append, h]
theorem posL_succ_no {f : Nat → Int} {k : Nat} (h : ¬ 0 < f k) : posL f (k + 1) = posL f k := by simp [posL, List.range_succ, List.filter_append, h]

theorem posL_lt (f : Nat → Int) (k : Nat) (hk : k ≤ 16) : maskL (posL f k) < 2 ^ 16 := by
  refine maskL_lt _ fun x hx => ?_
  unfold posL at hx
  simp at hx
  obtain ⟨i, ⟨h1, h2⟩, rfl⟩ := hx
  omega

theorem posL_or {f : Nat → Int} {k : Nat} (hk : k < 16) (h : 0 < f k) : bits .or .u16 (maskL (posL f k) : Int) (IntKind.u16.wrap (2 ^ k)) = (maskL (posL f (k + 1)) : Int) := by
  have hx2 : 2 ^ k < 2 ^ 16 := Nat.pow_lt_pow_right (by decide) hk
  have hx3 : ((2 : Int) ^ k) = ((2 ^ k : Nat) : Int) := by simp
  rw [hx3, wraps_u16 _ (Int.natCast_nonneg _) (by exact_mod_cast hx2), or_u16 _ _ (posL_lt f k (by omega)) hx2, posL_succ_yes h, maskL_snoc, Int.toNat_natCast]

theorem size_u8 : (Try.prog.info? 5).map (·.size) = some 1 := by kernel_rfl

theorem run_index_t16 (f : Nat → Int) (k : Nat) (hk : k < 16) (w : World) : (Instr.index 63 (.agg (tokF f)) (.int .i64 k)).run Try.prog w = .ok (.int .u8 (f k)) w := by
  have h := tokF_at f k hk
  have h1 : (0 : Int) ≤ (k : Int) ∧ (k : Int) < 16 := by omega
  obtain ⟨i, hi, hs⟩ := Option.map_eq_some_iff.1 size_u8
  simp [Instr.index, run_underlying Try.underlying63, asIntOf, h1, part, isAgg, run_underlying Try.underlying5, sizeOf, typeInfo, hi, hs, h, go_sem]
  omega

set_option maxHeartbeats 1000000 in
theorem markedI_any (f : Nat → Int) (w : World) (hf : ∀ i, 0 ≤ f i ∧ f i ≤ 255) :
    Calls Try.prog 32 #[.agg (tokF f)] w fun e w' => e = .returned (.int .u16 (maskL (posL f 16) : Int)) ∧ w' = w.alloc (.cells (tokF f) 63) := by
  have hg0 := heap_alloc_new w (.cells (tokF f) 63)
  go_enter Try.func32, Try.ntmps32
  go_wp2_with (refine wpList_load_row rfl 63 (.tmp 1) rfl _ rfl 63 (tokF f) (0, 0) _ hg0 Try.underlying63 rfl (by rw [tokF_size]; exact Try.size63) ?_)
  clear hg0
  obtain ⟨v, hv⟩ : ∃ v, Hid (w.alloc (.cells (tokF f) 63) = v) := ⟨_, rfl⟩
  rw [hv.out]
  go_loop [3, 7] (fun s i => ∃ k : Nat, k ≤ 16 ∧ i = .int .i64 k ∧ s = .int .u16 (maskL (posL f k) : Int)) (fun _ i => 16 - (intOf i).toNat)
  case atStart => exact ⟨0, Nat.zero_le _, rfl, rfl⟩
  case round =>
    obtain ⟨k, hk, rfl, rfl⟩ := hrel
    by_cases hlt : k < 16
    rotate_left
    · have hk' : k = 16 := by omega
      subst hk'
      obtain ⟨s, hs⟩ : ∃ s : Nat, Hid (maskL (posL f 16) = s) := ⟨_, rfl⟩
      rw [hs.out]
      go_wp2_with fail
      go_ret
      exact ⟨by rw [hs.out]; rfl, hv.out.symm⟩
    have hat : ∀ w, (Instr.index 63 (.agg (tokF f)) (.int .i64 k)).run Try.prog w = .ok (.int .u8 (f k)) w := fun w => run_index_t16 f k hlt w
    have hi1 : ((k : Int)) < 16 := by omega
    have hi0 : (0 : Int) ≤ (k : Int) := by omega
    have hb := hf k
    by_cases hp : 0 < f k
    · have HM := hide (posL_or hlt hp)
      obtain ⟨x, hx⟩ : ∃ x, Hid (f k = x) := ⟨_, rfl⟩
      rw [hx.out] at hat hb hp
      obtain ⟨mm, hmm⟩ : ∃ s : Nat, Hid (maskL (posL f k) = s) := ⟨_, rfl⟩
      rw [hmm.out] at HM ⊢
      clear hf
      go_wp2_with fail
      go_round
      case rel => exact ⟨k + 1, by omega, by go_num, by rw [← HM.out]⟩
      case measure => simp [intOf]; omega
    · have HM := hide (posL_succ_no hp)
      have hx : f k = 0 := by omega
      rw [hx] at hat
      clear hp hx hb hf
      obtain ⟨mm, hmm⟩ : ∃ s : Nat, Hid (maskL (posL f k) = s) := ⟨_, rfl⟩
      rw [hmm.out]
      go_wp2_with fail
      go_round
      case rel => exact ⟨k + 1, by omega, by go_num, by rw [HM.out, hmm.out]⟩
      case measure => simp [intOf]; omega

theorem andNot_nat (a b : Nat) : bits .andNot .u16 (a : Int) (b : Int) = (((BitVec.ofNat 16 a) &&& ~~~(BitVec.ofNat 16 b)).toNat : Int) := by
  simp only [bits, BitVec.ofInt_natCast]
  refine wraps_u16 _ (Int.natCast_nonneg _) ?_
  have := ((BitVec.ofNat 16 a) &&& ~~~(BitVec.ofNat 16 b)).isLt
  exact_mod_cast this

theorem andNot_zero {a b : Nat} (h : a &&& b = a) : bits .andNot .u16 (a : Int) (b : Int) = 0 := by
  rw [andNot_nat a b]
  have : (BitVec.ofNat 16 a) &&& ~~~(BitVec.ofNat 16 b) = 0#16 := by
    apply BitVec.eq_of_getLsbD_eq
    intro i hi
    have hbit : (a &&& b).testBit i = a.testBit i := by rw [h]
    rw [Nat.testBit_and] at hbit
    rw [BitVec.getLsbD_and, BitVec.getLsbD_not, BitVec.getLsbD_ofNat, BitVec.getLsbD_ofNat]
    cases h1 : a.testBit i
    · simp
    · rw [h1] at hbit
      have : b.testBit i = true := by simpa using hbit
      simp [this, hi]
  rw [this]; rfl

theorem andNot_ne {a b : Nat} (ha : a < 2 ^ 16) (h : ¬ a &&& b = a) : ¬ bits .andNot .u16 (a : Int) (b : Int) = 0 := by
  rw [andNot_nat a b]
  intro e
  apply h
  have e' : (BitVec.ofNat 16 a) &&& ~~~(BitVec.ofNat 16 b) = 0#16 := by
    apply BitVec.eq_of_toNat_eq
    simpa using (by exact_mod_cast e : ((BitVec.ofNat 16 a) &&& ~~~(BitVec.ofNat 16 b)).toNat = 0)
  apply Nat.eq_of_testBit_eq
  intro i
  rw [Nat.testBit_and]
  by_cases hi : i < 16
  · have := congrArg (fun x => BitVec.getLsbD x i) e'
    rw [BitVec.getLsbD_and, BitVec.getLsbD_not, BitVec.getLsbD_ofNat, BitVec.getLsbD_ofNat] at this
    cases h1 : a.testBit i
    · rfl
    · rw [h1] at this
      cases h2 : b.testBit i
      · rw [h2] at this; simp [hi] at this
      · rfl
  · rw [Nat.testBit_lt_two_pow (Nat.lt_of_lt_of_le ha (Nat.pow_le_pow_right (by decide) (by omega)))]; rfl

/-- Whether all bits of one are bits of the other. -/
def subB (a b : Nat) : Bool := decide (a &&& b = a)

theorem bit_of (s k : Nat) (hs : s < 2 ^ 16) : (bits .and .u16 ((s : Int) / 2 ^ k) 1 == 1) = s.testBit k := by
  have h1 : ((s : Int) / 2 ^ k) = ((s / 2 ^ k : Nat) : Int) := by simp
  have h2 : s / 2 ^ k < 2 ^ 16 := Nat.lt_of_le_of_lt (Nat.div_le_self _ _) hs
  have h3 := and_u16 (s / 2 ^ k) 1 h2 (by decide)
  rw [h1]
  rw [show ((1 : Nat) : Int) = (1 : Int) from rfl] at h3
  rw [h3, Nat.and_one_is_mod, Nat.testBit_eq_decide_div_mod_eq]
  by_cases h : s / 2 ^ k % 2 = 1
  · rw [h]; rfl
  · have h4 : s / 2 ^ k % 2 = 0 := by omega
    rw [h4]; rfl

set_option maxHeartbeats 400000 in
theorem hasI_any (s k : Nat) (w : World) (hs : s < 2 ^ 16) (hk : k < 16) :
    Calls Try.prog 66 #[.int .u16 (s : Int), .int .i64 (k : Int)] w fun e w' => e = .returned (.bool (s.testBit k)) ∧ w' = w := by
  have hk0 : (0 : Int) ≤ (k : Int) := by omega
  have HB := hide (bit_of s k hs)
  go_enter Try.func66, Try.ntmps66
  go_wp2_with fail
  go_ret
  exact ⟨ret_bool HB.out, rfl⟩

/-- The number of tokens of a place behind a step. -/
def stepF (s0 s1 s2 : Nat) (f : Nat → Int) (i : Nat) : Int :=
  (if s2.testBit i then 0 else if s0.testBit i then f i - 1 else f i) + (if s1.testBit i then 1 else 0)

/-- The first k places are behind the step. -/
def partF (s0 s1 s2 : Nat) (f : Nat → Int) (k : Nat) : Nat → Int := fun i => if i < k then stepF s0 s1 s2 f i else f i

/-- .. and the place k has v. -/
def midF (s0 s1 s2 : Nat) (f : Nat → Int) (k : Nat) (v : Int) : Nat → Int := fun i => if i = k then v else partF s0 s1 s2 f k i

theorem midF_at (s0 s1 s2 : Nat) (f : Nat → Int) (k : Nat) (hk : k < 16) (v : Int) : (tokF (midF s0 s1 s2 f k v))[k]? = some (.int .u8 v) := by
  rw [tokF_at _ _ hk]; unfold midF; rw [if_pos rfl]

theorem midF_set (s0 s1 s2 : Nat) (f : Nat → Int) (k : Nat) (v v' : Int) : (tokF (midF s0 s1 s2 f k v)).setIfInBounds k (.int .u8 v') = tokF (midF s0 s1 s2 f k v') := by
  refine tokF_set _ _ k _ ?_ fun i hi => ?_
  · unfold midF; rw [if_pos rfl]
  · unfold midF; rw [if_neg hi, if_neg hi]

theorem midF_start (s0 s1 s2 : Nat) (f : Nat → Int) (k : Nat) : partF s0 s1 s2 f k = midF s0 s1 s2 f k (f k) := by
  funext i; unfold midF
  by_cases h : i = k
  · subst h; rw [if_pos rfl]; unfold partF; rw [if_neg (by omega)]
  · rw [if_neg h]

theorem midF_end (s0 s1 s2 : Nat) (f : Nat → Int) (k : Nat) : midF s0 s1 s2 f k (stepF s0 s1 s2 f k) = partF s0 s1 s2 f (k + 1) := by
  funext i; unfold midF partF
  by_cases h : i = k
  · subst h; rw [if_pos rfl, if_pos (by omega)]
  · rw [if_neg h]
    by_cases h2 : i < k
    · rw [if_pos h2, if_pos (by omega)]
    · rw [if_neg h2, if_neg (by omega)]

/-- No place has too many. -/
def capB (s0 s1 s2 : Nat) (f : Nat → Int) (k : Nat) : Bool := (List.range k).all fun i => decide (stepF s0 s1 s2 f i ≤ 50)

theorem capB_no {s0 s1 s2 : Nat} {f : Nat → Int} {k : Nat} (hk : k < 16) (h : 50 < stepF s0 s1 s2 f k) : capB s0 s1 s2 f 16 = false := by
  unfold capB; rw [List.all_eq_false]; exact ⟨k, by simpa using hk, by simpa using h⟩

/-- How after ends. -/
def AfEnd (s0 s1 s2 : Nat) (f : Nat → Int) (w : World) (e : Ending) (w' : World) : Prop :=
  ∃ h, e = .returned (.tuple #[.agg (tokF h), .bool (capB s0 s1 s2 f 16)]) ∧ Hid (capB s0 s1 s2 f 16 = true → h = partF s0 s1 s2 f 16) ∧ Below w.heap.size w w'

theorem zeros_tok : (#[.int .u8 0, .int .u8 0, .int .u8 0, .int .u8 0, .int .u8 0, .int .u8 0, .int .u8 0, .int .u8 0, .int .u8 0, .int .u8 0, .int .u8 0, .int .u8 0, .int .u8 0, .int .u8 0, .int .u8 0, .int .u8 0] : Array Value) = tokF (fun _ => 0) := rfl

theorem afEnd_no {s0 s1 s2 : Nat} {f : Nat → Int} {w w' : World} (h : capB s0 s1 s2 f 16 = false) (hb : Below w.heap.size w w') : AfEnd s0 s1 s2 f w (.returned (.tuple #[.agg #[.int .u8 0, .int .u8 0, .int .u8 0, .int .u8 0, .int .u8 0, .int .u8 0, .int .u8 0, .int .u8 0, .int .u8 0, .int .u8 0, .int .u8 0, .int .u8 0, .int .u8 0, .int .u8 0, .int .u8 0, .int .u8 0], .bool false])) w' :=
  ⟨fun _ => 0, by rw [h, zeros_tok], by rw [h]; intro e; simp at e, hb⟩

theorem afEnd_yes {s0 s1 s2 : Nat} {f : Nat → Int} {w w' : World} (h : capB s0 s1 s2 f 16 = true) (hb : Below w.heap.size w w') : AfEnd s0 s1 s2 f w (.returned (.tuple #[.agg (tokF (partF s0 s1 s2 f 16)), .bool true])) w' :=
  ⟨_, by rw [h], fun _ => rfl, hb⟩

abbrev Zs : Array Value := #[.int .u8 0, .int .u8 0, .int .u8 0, .int .u8 0, .int .u8 0, .int .u8 0, .int .u8 0, .int .u8 0, .int .u8 0, .int .u8 0, .int .u8 0, .int .u8 0, .int .u8 0, .int .u8 0, .int .u8 0, .int .u8 0]

theorem after_res {fn : Func} {q u : Tmp} (hr : fn.results = #[.cell q 63, .tmp u]) (tmps : Array Value) (W : World) (b : Nat) (C : Array Value) (v : Value) (h4 : tmps.getD q undef = .pointer (some ⟨b, 0, none⟩)) (h5 : tmps.getD u undef = v)
    (hs : C.size = 16) (q4 : W.heap[b]? = some (.cells C 63 (0, 0))) : (results fn tmps).run Try.prog W = .ok (.tuple #[.agg C, v]) W := by
  refine (results_cell_tmp hr _ _ _).trans ?_
  rw [h4, h5]
  show ((loadVar 63 ⟨b, 0, none⟩).run Try.prog _).andThen _ = _
  rw [run_loadVar_row _ _ 63 63 C (0, 0) _ q4 Try.underlying63 rfl (by rw [hs]; exact Try.size63)]
  rfl

/-- What the loop of after keeps in mind. -/
structure AfInv (w wr : World) (s0 s1 s2 : Nat) (g : Nat → Int) : Prop where
  st : wr.heap[w.heap.size]? = some (.cells #[.int .u16 (s0 : Int), .int .u16 (s1 : Int), .int .u16 (s2 : Int)] 85 (0, 0))
  tk : wr.heap[w.heap.size + 1]? = some (.cells (tokF g) 63 (0, 0))
  rs : wr.heap[w.heap.size + 1 + 1]? = some (.cells #[.int .u8 0, .int .u8 0, .int .u8 0, .int .u8 0, .int .u8 0, .int .u8 0, .int .u8 0, .int .u8 0, .int .u8 0, .int .u8 0, .int .u8 0, .int .u8 0, .int .u8 0, .int .u8 0, .int .u8 0, .int .u8 0] 63 (0, 0))
  bel : Below w.heap.size w wr

theorem AfInv.set {w wr : World} {s0 s1 s2 : Nat} {f : Nat → Int} {k : Nat} {v : Int} (h : AfInv w wr s0 s1 s2 (midF s0 s1 s2 f k v)) (v' : Int) : AfInv w (wr.setCell ⟨w.heap.size + 1, k, none⟩ (.int .u8 v')) s0 s1 s2 (midF s0 s1 s2 f k v') :=
  ⟨(Below.heap_setCell _ _ _ _ (show w.heap.size ≠ w.heap.size + 1 by omega)).trans h.st, by rw [heap_setCell_same _ _ _ _ _ _ h.tk, midF_set], (Below.heap_setCell _ _ _ _ (show w.heap.size + 1 + 1 ≠ w.heap.size + 1 by omega)).trans h.rs, h.bel.setCell (by simp) _⟩

theorem AfInv.start (w : World) (s0 s1 s2 : Nat) (f : Nat → Int) : AfInv w (((w.alloc (.cells #[.int .u16 (s0 : Int), .int .u16 (s1 : Int), .int .u16 (s2 : Int)] 85)).alloc (.cells (tokF f) 63)).alloc (.cells #[.int .u8 0, .int .u8 0, .int .u8 0, .int .u8 0, .int .u8 0, .int .u8 0, .int .u8 0, .int .u8 0, .int .u8 0, .int .u8 0, .int .u8 0, .int .u8 0, .int .u8 0, .int .u8 0, .int .u8 0, .int .u8 0] 63)) s0 s1 s2 f := by
  refine ⟨?_, ?_, ?_, ((below_al w _).alloc (by simp) _).alloc (by simp; omega) _⟩
  · rw [heap_al_old _ _ _ (by simp; omega), heap_al_old _ _ _ (by simp)]; exact heap_alloc_new _ _
  · rw [heap_al_old _ _ _ (by simp)]
    have := heap_alloc_new (w.alloc (.cells #[.int .u16 (s0 : Int), .int .u16 (s1 : Int), .int .u16 (s2 : Int)] 85)) (.cells (tokF f) 63)
    simpa using this
  · have := heap_alloc_new ((w.alloc (.cells #[.int .u16 (s0 : Int), .int .u16 (s1 : Int), .int .u16 (s2 : Int)] 85)).alloc (.cells (tokF f) 63)) (.cells #[.int .u8 0, .int .u8 0, .int .u8 0, .int .u8 0, .int .u8 0, .int .u8 0, .int .u8 0, .int .u8 0, .int .u8 0, .int .u8 0, .int .u8 0, .int .u8 0, .int .u8 0, .int .u8 0, .int .u8 0, .int .u8 0] 63)
    simpa using this

end Go.Proofs.Ytmhgdhkpceggkab


/- IsGuarded of both. -/
namespace Go.Proofs.Ytmhgdhkpceggkab
open Go.RowKit
set_option maxRecDepth 10000

/-- Each of some sets has a place that is marked in its greatest trap. -/
def GdL (n : Nat) (L : List (List Int)) (mk : Nat) (l : List Nat) : Prop := ∀ s ∈ l, ∃ r, IsG false n L s r ∧ r &&& mk ≠ 0
/-- One of some sets has none. -/
def NoG (n : Nat) (L : List (List Int)) (mk : Nat) (l : List Nat) : Prop := ∃ s ∈ l, ∃ r, IsG false n L s r ∧ r &&& mk = 0

theorem gd_no {n : Nat} {L : List (List Int)} {mk : Nat} {l : List Nat} (h : GdL n L mk l) (h' : NoG n L mk l) : False := by
  obtain ⟨s, hs, r, hr, h0⟩ := h'
  obtain ⟨r', hr', h1⟩ := h s hs
  rw [hr.unique hr'] at h0
  exact h1 h0

theorem GdL.step {n : Nat} {L : List (List Int)} {mk k s r : Nat} {l : List Nat} (h : GdL n L mk (l.take k)) (hx : l[k]? = some s) (hr : IsG false n L s r) (h0 : r &&& mk ≠ 0) : GdL n L mk (l.take (k + 1)) := by
  intro t ht
  rw [List.take_add_one, hx] at ht
  rcases List.mem_append.mp ht with ht | ht
  · exact h t ht
  · simp at ht; subst ht; exact ⟨r, hr, h0⟩

/-- What both tell: b of the net and the mark. -/
def gdOk (p : Int) (n : Nat) (L : List (List Int)) (ys : List Int) : Bool := siOk p n L && goodB p ys
def mkOf (ys : List Int) : Nat := maskL (posL (fOf ys ys.length) 16)
def GdR (p : Int) (n : Nat) (L : List (List Int)) (ys : List Int) (b : Bool) : Prop :=
  (gdOk p n L ys = false → b = false) ∧ (gdOk p n L ys = true → (b = true ∧ GdL n L (mkOf ys) (spN p n L)) ∨ (b = false ∧ NoG n L (mkOf ys) (spN p n L)))

theorem GdR.same {p : Int} {n : Nat} {L : List (List Int)} {ys : List Int} {b b' : Bool} (h : GdR p n L ys b) (h' : GdR p n L ys b') : b = b' := by
  cases hok : gdOk p n L ys
  · rw [h.1 hok, h'.1 hok]
  · rcases h.2 hok with ⟨rfl, h1⟩ | ⟨rfl, h1⟩ <;> rcases h'.2 hok with ⟨rfl, h2⟩ | ⟨rfl, h2⟩
    · rfl
    · exact absurd h2 (fun e => gd_no h1 e)
    · exact absurd h1 (fun e => gd_no h2 e)
    · rfl

theorem gdOk_parts {p : Int} {n : Nat} {L : List (List Int)} {ys : List Int} (h : gdOk p n L ys = true) : siOk p n L = true ∧ goodB p ys = true := by
  unfold gdOk at h; simpa using h

theorem good_at {p : Int} {ys : List Int} (h : goodB p ys = true) : 1 ≤ p ∧ p ≤ 16 ∧ (ys.length : Int) = p ∧ ∀ i, 0 ≤ ys.getD i 0 ∧ ys.getD i 0 ≤ 50 := by
  unfold goodB at h
  simp only [Bool.and_eq_true, decide_eq_true_eq] at h
  obtain ⟨⟨h1, h2⟩, h3⟩ := h
  have h1' : 1 ≤ p ∧ p ≤ 16 := by simpa [inB] using h1
  refine ⟨h1'.1, h1'.2, h2, fun i => ?_⟩
  by_cases hi : i < ys.length
  · unfold allB at h3
    have := List.all_eq_true.mp h3 (ys[i]) (List.getElem_mem hi)
    rw [List.getD_eq_getElem?_getD, List.getElem?_eq_getElem hi]
    simpa [inB] using this
  · rw [List.getD_eq_getElem?_getD, List.getElem?_eq_none (by omega)]; simp

theorem mkOf_bit {ys : List Int} {i : Nat} (hl : ys.length ≤ 16) : (mkOf ys).testBit i = decide (0 < ys.getD i 0) := by
  unfold mkOf
  rw [maskL_bit _ _ (fun x hx => by unfold posL at hx; simp at hx; obtain ⟨a, _, rfl⟩ := hx; omega)]
  congr 1
  apply propext
  unfold posL
  simp only [List.mem_map, List.mem_filter, List.mem_range, decide_eq_true_eq]
  constructor
  · rintro ⟨a, ⟨h1, h2⟩, e⟩
    have : a = i := by omega
    subst this
    unfold fOf at h2
    split at h2
    · exact h2
    · omega
  · intro h
    have hi : i < ys.length := by
      rcases Nat.lt_or_ge i ys.length with h1 | h1
      · exact h1
      · rw [List.getD_eq_getElem?_getD, List.getElem?_eq_none h1] at h; simp at h
    exact ⟨i, ⟨by omega, by unfold fOf; rw [if_pos hi]; exact h⟩, rfl⟩

theorem mkOf_lt (ys : List Int) : mkOf ys < 2 ^ 16 := posL_lt _ _ (Nat.le_refl _)

/-- How the question of a set ends. -/
def OpEnd (n : Nat) (L : List (List Int)) (mk s : Nat) (w : World) (e : Ending) (w' : World) : Prop := (∃ r, e = .returned (.bool (decide (r &&& mk = 0))) ∧ IsG false n L s r) ∧ Below w.heap.size w w'

set_option maxHeartbeats 2000000 in
theorem open_any (p : Int) (B n bn bm s mk : Nat) (L : List (List Int)) (w : World) (h : PartS w B (3 * n) (3 * n) L) (hn : n ≤ 24) (hs : s < 2 ^ 16) (hmk : mk < 2 ^ 16) (hm : ∀ i, maskL (L.getD i []) < 2 ^ 16)
    (h1 : w.heap[bn]? = some (.cells #[.int .i64 p, .slice (some ⟨B, 0, none⟩) n n] 51 (0, 0))) (h2 : w.heap[bm]? = some (.cells #[.int .u16 (mk : Int)] 67 (0, 0))) :
    Calls Try.prog 33 #[.int .u16 (s : Int), .pointer (some ⟨bn, 0, none⟩), .pointer (some ⟨bm, 0, none⟩)] w fun e w' => OpEnd n L mk s w e w' := by
  have HN := hide h1
  have HM := hide h2
  have HP := hide h
  have HMM := hide hm
  have HBR := hide (Below.refl w.heap.size w)
  clear h1 h2 h hm
  go_enter Try.func33, Try.ntmps33
  go_upto_region 1 with fail
  have hS1 : (fun W : World => W.heap[bn]? = some (.cells #[.int .i64 p, .slice (some ⟨B, 0, none⟩) n n] 51 (0, 0)) ∧ W.heap[bm]? = some (.cells #[.int .u16 (mk : Int)] 67 (0, 0))) w.drew := ⟨HN.out, HM.out⟩
  have HB1 := hide HBR.out.drew
  have HP1 := hide (HP.out.grow (Below.refl _ w).drew)
  refine wp_region_held_drew (S := fun W => W.heap[bn]? = some (.cells #[.int .i64 p, .slice (some ⟨B, 0, none⟩) n n] 51 (0, 0)) ∧ W.heap[bm]? = some (.cells #[.int .u16 (mk : Int)] 67 (0, 0))) (by kernel_rfl) hS1 (fun hHeld => ?_)
  clear HN HM HP HBR hHeld
  obtain ⟨W0, hW0⟩ : ∃ W0, Hid (w.heap.size = W0) := ⟨_, rfl⟩
  generalize w.drew = w1 at *
  refine take_yes (i := 0) (some 5) (.agg #[.int .i64 p, .slice (some ⟨B, 0, none⟩) n n]) rfl rfl (by kernel_rfl) (by kernel_rfl) (by kernel_rfl) (fun _ _ _ h => h) (by rfl) ?_ (by assumption) ?_
  · intro W' hSw
    obtain ⟨hz0, hz1⟩ := hSw
    exact exec_load_rowA 51 _ rfl _ rfl 51 _ _ _ hz0 Try.underlying51 rfl Try.size51
  simp only [Act.put, List.setIfInBounds_toArray, List.set_cons_zero, List.set_cons_succ]
  refine take_yes (i := 1) (some 6) (.int .u16 (s : Int)) rfl rfl (by kernel_rfl) (by kernel_rfl) (by kernel_rfl) (fun _ _ _ h => h) (by rfl) ?_ (by assumption) ?_
  · intro W' hSw
    obtain ⟨hz0, hz1⟩ := hSw
    go_simp
  simp only [Act.put, List.setIfInBounds_toArray, List.set_cons_zero, List.set_cons_succ]
  refine take_yes (i := 3) (some 8) (.int .u16 (mk : Int)) rfl rfl (by kernel_rfl) (by kernel_rfl) (by kernel_rfl) (fun _ _ _ h => h) (by rfl) ?_ (by assumption) ?_
  · intro W' hSw
    obtain ⟨hz0, hz1⟩ := hSw
    have hc := cell_of_row W' _ 0 _ _ _ hz1
    simp at hc
    go_simp
  simp only [Act.put, List.setIfInBounds_toArray, List.set_cons_zero, List.set_cons_succ]
  refine call_next (i := 2) (some 7) rfl rfl (by kernel_rfl) (by rfl) 34 _ _ _ rfl Try.func34 (by decide) rfl #[.agg #[.int .i64 p, .slice (some ⟨B, 0, none⟩) n n], .int .u16 (s : Int)] (mapw2 _ _ _ _ _ rfl rfl) _ (bigTrapP_any p (some ⟨B, 0, none⟩) n n s L w1 (fun _ => ⟨B, rfl, rfl, HP1.out⟩) hn hs HMM.out) ?_
  rintro e w2 ⟨⟨r, rfl, hg⟩, hb2⟩
  have HB2 := hide (HB1.out.trans (hb2.mono HB1.out.size))
  have hS2 : (fun W : World => W.heap[bn]? = some (.cells #[.int .i64 p, .slice (some ⟨B, 0, none⟩) n n] 51 (0, 0)) ∧ W.heap[bm]? = some (.cells #[.int .u16 (mk : Int)] 67 (0, 0))) w2 := ⟨keep hS1.1 hb2, keep hS1.2 hb2⟩
  refine ⟨_, rfl, hS2, fun _ => ?_⟩
  simp only [Act.put, List.setIfInBounds_toArray, List.set_cons_zero, List.set_cons_succ]
  have hrl := within_lt hg.1 hs
  have a0 := and_u16 r mk hrl hmk
  have HE : Hid (OpEnd n L mk s w (.returned (.bool (decide (r &&& mk = 0)))) w2) := ⟨⟨r, rfl, hg⟩, HB2.out⟩
  have HZ0 : (((r &&& mk : Nat) : Int) == 0) = decide (r &&& mk = 0) := by by_cases h : r &&& mk = 0 <;> simp [h]
  generalize r &&& mk = t0 at *
  refine take_yes (i := 4) (some 9) (.int .u16 (t0 : Int)) rfl rfl (by kernel_rfl) (by kernel_rfl) (by kernel_rfl) (fun _ _ _ h => h) (by rfl) ?_ (by assumption) ?_
  · intro W' hSw
    obtain ⟨hz0, hz1⟩ := hSw
    go_simp
  simp only [Act.put, List.setIfInBounds_toArray, List.set_cons_zero, List.set_cons_succ]
  refine take_yes (i := 5) (some 10) (.bool (decide (t0 = 0))) rfl rfl (by kernel_rfl) (by kernel_rfl) (by kernel_rfl) (fun _ _ _ h => h) (by rfl) ?_ (by assumption) ?_
  · intro W' hSw
    obtain ⟨hz0, hz1⟩ := hSw
    go_simp
  simp only [Act.put, List.setIfInBounds_toArray, List.set_cons_zero, List.set_cons_succ]
  refine take_yes (i := 6) (some 4) (.bool (decide (t0 = 0))) rfl rfl (by kernel_rfl) (by kernel_rfl) (by kernel_rfl) (fun _ _ _ h => h) (by rfl) ?_ (by assumption) ?_
  · intro W' hSw
    obtain ⟨hz0, hz1⟩ := hSw
    go_simp
  simp only [Act.put, List.setIfInBounds_toArray, List.set_cons_zero, List.set_cons_succ]
  refine wpAnyH_done (by kernel_rfl) ?_ _
  go_wp2_with fail
  go_ret
  exact HE.out

/-- How the search for a set without a marked trap ends. -/
def IoEnd (n : Nat) (L : List (List Int)) (mk : Nat) (l : List Nat) (w : World) (e : Ending) (w' : World) : Prop :=
  ∃ z : Int, e = .returned (.int .i64 z) ∧ Hid ((0 ≤ z ∧ NoG n L mk l) ∨ (¬ 0 ≤ z ∧ GdL n L mk l)) ∧ Below w.heap.size w w'


set_option maxHeartbeats 1000000 in
theorem openIx_any (p : Int) (B n bn bm mk B2 m c : Nat) (a : Option Addr) (l : List Nat) (L : List (List Int)) (w : World) (h : PartS w B (3 * n) (3 * n) L) (hn : n ≤ 24) (hmk : mk < 2 ^ 16) (hm : ∀ i, maskL (L.getD i []) < 2 ^ 16)
    (h1 : w.heap[bn]? = some (.cells #[.int .i64 p, .slice (some ⟨B, 0, none⟩) n n] 51 (0, 0))) (h2 : w.heap[bm]? = some (.cells #[.int .u16 (mk : Int)] 67 (0, 0)))
    (ho : w.ownsRow B2 67 1 (.slice a m c) m (encS l)) (hm1 : m ≤ 1024) (hl : ∀ s ∈ l, s < 2 ^ 16) :
    Calls Try.prog 57 #[.slice a m c, .func (.func 33) #[] #[.pointer (some ⟨bn, 0, none⟩), .pointer (some ⟨bm, 0, none⟩)]] w fun e w' => IoEnd n L mk l w e w' := by
  have HO := hide ho
  have HL := hide hl
  have HP := hide h
  have HMM := hide hm
  have H1 := hide h1
  have H2 := hide h2
  have hlen : l.length = m := by have := ho.1; rw [encS_len] at this; omega
  clear ho hl h hm h1 h2
  go_enter Try.func57, Try.ntmps57
  go_wp2_with fail
  go_loopw [8] (fun i wr => ∃ k : Nat, k ≤ m ∧ i = .int .i64 k ∧ Hid (GdL n L mk (l.take k)) ∧ Hid (Below w.heap.size w wr)) (fun i _ => m - (intOf i).toNat)
  case atStart => exact ⟨0, Nat.zero_le _, rfl, fun s hs => by simp at hs, Below.refl _ _⟩
  case round =>
    obtain ⟨k, hk, rfl, hu, hbw⟩ := hrel
    by_cases hkm : k < m
    rotate_left
    · have hk' : m = k := by omega
      subst hk'
      have HE : Hid (IoEnd n L mk l w (.returned (.int .i64 (-1))) wr) := ⟨-1, rfl, .inr ⟨by omega, by have := hu.out; rw [List.take_of_length_le (by omega)] at this; exact this⟩, hbw.out⟩
      clear hu hbw
      go_wp2_with fail
      go_ret
      exact HE.out
    obtain ⟨g, c', ev, hgl, hcg, hlk⟩ := setSet_at (own_growK HO.out hbw.out) hkm
    injection ev with e1 _ e3
    subst e1 e3
    obtain ⟨s, hs⟩ : ∃ s, Hid (l.getD k 0 = s) := ⟨_, rfl⟩
    rw [hs.out] at hcg hlk
    have hsl := HL.out s (List.mem_of_getElem? hlk)
    have HH := hide (open_any p B n bn bm s mk L wr (HP.out.grow hbw.out) hn hsl hmk HMM.out (keep H1.out hbw.out) (keep H2.out hbw.out))
    have HLK := hide hlk
    clear hlk hs
    go_wp2_with fail
    refine HH.out.mono ?_
    rintro e w1 ⟨⟨r, rfl, hg⟩, hb⟩
    have HB := hide (hbw.out.trans (hb.mono hbw.out.size))
    cases hd : decide (r &&& mk = 0)
    · have HU := hide (hu.out.step HLK.out hg (of_decide_eq_false hd))
      clear hd hu HLK HH hcg hgl hb hg hbw
      go_wp2_with fail
      go_roundw
      case rel => exact ⟨k + 1, by omega, by go_num, HU, HB⟩
      case measure => simp [intOf]; omega
    · have HE : Hid (IoEnd n L mk l w (.returned (.int .i64 (k : Int))) w1) := ⟨k, rfl, .inl ⟨by omega, s, List.mem_of_getElem? HLK.out, r, hg, of_decide_eq_true hd⟩, HB.out⟩
      clear hd hu HLK HH hcg hgl hb hg hbw
      go_wp2_with fail
      go_ret
      exact HE.out

/-- How the question of all sets ends. -/
def OaEnd (n : Nat) (L : List (List Int)) (mk : Nat) (l : List Nat) (w : World) (e : Ending) (w' : World) : Prop :=
  ∃ b : Bool, e = .returned (.bool b) ∧ Hid ((b = true ∧ NoG n L mk l) ∨ (b = false ∧ GdL n L mk l)) ∧ Below w.heap.size w w'

set_option maxHeartbeats 400000 in
theorem openC_any (p : Int) (B n bn bm mk B2 m c : Nat) (a : Option Addr) (l : List Nat) (L : List (List Int)) (w : World) (h : PartS w B (3 * n) (3 * n) L) (hn : n ≤ 24) (hmk : mk < 2 ^ 16) (hm : ∀ i, maskL (L.getD i []) < 2 ^ 16)
    (h1 : w.heap[bn]? = some (.cells #[.int .i64 p, .slice (some ⟨B, 0, none⟩) n n] 51 (0, 0))) (h2 : w.heap[bm]? = some (.cells #[.int .u16 (mk : Int)] 67 (0, 0)))
    (ho : w.ownsRow B2 67 1 (.slice a m c) m (encS l)) (hm1 : m ≤ 1024) (hl : ∀ s ∈ l, s < 2 ^ 16) :
    Calls Try.prog 35 #[.slice a m c, .func (.func 33) #[] #[.pointer (some ⟨bn, 0, none⟩), .pointer (some ⟨bm, 0, none⟩)]] w fun e w' => OaEnd n L mk l w e w' := by
  have HI := hide (openIx_any p B n bn bm mk B2 m c a l L w h hn hmk hm h1 h2 ho hm1 hl)
  clear h hm h1 h2 ho hl
  go_enter Try.func35, Try.ntmps35
  go_wp2_with fail
  refine HI.out.mono ?_
  rintro e w1 ⟨z, rfl, hz, hb⟩
  have HE : Hid (OaEnd n L mk l w (.returned (.bool (decide (0 ≤ z)))) w1) := by
    rcases hz.out with ⟨h0, h1⟩ | ⟨h0, h1⟩
    · exact ⟨_, rfl, .inl ⟨decide_eq_true h0, h1⟩, hb⟩
    · exact ⟨_, rfl, .inr ⟨decide_eq_false h0, h1⟩, hb⟩
  clear hb HI hz
  go_wp2_with fail
  go_ret
  exact HE.out
end Go.Proofs.Ytmhgdhkpceggkab


/- IsGuarded of the program. -/
namespace Go.Proofs.Ytmhgdhkpceggkab
open Go.RowKit
set_option maxRecDepth 10000

/-- How IsGuarded ends. -/
def IgEnd (p : Int) (n : Nat) (L : List (List Int)) (ys : List Int) (w : World) (e : Ending) (w' : World) : Prop :=
  ∃ b : Bool, e = .returned (.tuple #[.bool b, .bool (gdOk p n L ys)]) ∧ GdR p n L ys b ∧ Below w.heap.size w w'

theorem igEnd_no {p : Int} {n : Nat} {L : List (List Int)} {ys : List Int} {w w' : World} (h : gdOk p n L ys = false) (hb : Below w.heap.size w w') : IgEnd p n L ys w (.returned (.tuple #[.bool false, .bool false])) w' :=
  ⟨false, by rw [h], ⟨fun _ => rfl, fun e => (by rw [h] at e; cases e)⟩, hb⟩

set_option maxHeartbeats 4000000 in
theorem isGuardedI_any (p : Int) (a am : Option Addr) (n c nm cm : Nat) (L : List (List Int)) (ys : List Int) (w : World) (h : Lists w a (3 * n) L) (rm : Row w am nm ys) (hs : sizeN n L ≤ 1048576) (hnm : nm ≤ 1048576) :
    Calls Try.prog 16 #[.agg #[.int .i64 p, .slice a n c], .slice am nm cm] w fun e w' => IgEnd p n L ys w e w' := by
  have hAl := below_al w (.cells #[.int .i64 p, .slice a n c] 31)
  have HT := hide (smallSipB_any p a n c L _ (h.below hAl) hs)
  have HN0 := hide (heap_alloc_new w (.cells #[.int .i64 p, .slice a n c] 31))
  have HRM := hide (rm.below hAl)
  have HB0 := hide hAl
  have HLl := hide h.1
  have hyl : ys.length = nm := rm.1
  clear h rm hAl
  go_enter Try.func16, Try.ntmps16
  go_wp2_with fail
  refine HT.out.mono ?_
  rintro e w1 ⟨v, m, p', a', m', c', rfl, hown, hpe, hb⟩
  rw [spN_so] at hown
  have HB1 := hide (HB0.out.trans (hb.mono HB0.out.size))
  have hA1 := below_al w1 (.cells #[.int .i64 p', .slice a' m' c'] 51)
  have HB2 := hide (HB1.out.trans (hA1.mono HB1.out.size))
  have HO2 := hide (own_growK hown hA1)
  have HPE : Hid (siOk p n L = true → p' = p ∧ m' = n ∧ c' = n ∧ ∃ B, a' = some ⟨B, 0, none⟩ ∧ PartS (w1.alloc (.cells #[.int .i64 p', .slice a' m' c'] 51)) B (3 * n) (3 * n) L) := fun h => by
    obtain ⟨e1, e2, e0, B, e3, _, e4⟩ := hpe.out h
    exact ⟨e1, e2, e0, B, e3, e4.grow hA1⟩
  have HV := hide (heap_alloc_new w1 (.cells #[.int .i64 p', .slice a' m' c'] 51))
  obtain ⟨hc0, hc1⟩ := cells2 (keep (keep HN0.out hb) hA1)
  have hlt := row_lt (keep (keep HN0.out hb) hA1)
  have HTK := hide (tokens_any p am nm cm ys _ ((HRM.out.below hb).below hA1) hnm)
  obtain ⟨V1, hV1⟩ : ∃ V, w1.alloc (.cells #[.int .i64 p', .slice a' m' c'] 51) = V := ⟨_, rfl⟩
  obtain ⟨z, hz⟩ : ∃ z, w1.heap.size = z := ⟨_, rfl⟩
  rw [hV1] at HB2 HO2 HPE HV hc0 hc1 hlt HTK
  rw [hz] at HV
  obtain ⟨so, hso⟩ : ∃ so, Hid (siOk p n L = so) := ⟨_, rfl⟩
  rw [hso.out]
  clear hb hown hpe hA1 HT HB0 HB1 HN0 HRM
  go_wp2_with fail
  refine HTK.out.mono ?_
  rintro e w2 ⟨m2, rfl, hm2, hb⟩
  have HB3 := hide (HB2.out.trans (hb.mono HB2.out.size))
  have HO3 := hide (own_growK HO2.out hb)
  have HV3 := hide (keep HV.out hb)
  have HM2 := hide hm2.out
  have hg0 := heap_alloc_new w2 (.cells #[.int .u8 0, .int .u8 0, .int .u8 0, .int .u8 0, .int .u8 0, .int .u8 0, .int .u8 0, .int .u8 0, .int .u8 0, .int .u8 0, .int .u8 0, .int .u8 0, .int .u8 0, .int .u8 0, .int .u8 0, .int .u8 0] 63)
  obtain ⟨sg, hsg⟩ : ∃ sg, Hid (goodB p ys = sg) := ⟨_, rfl⟩
  rw [hsg.out]
  have HPE3 : Hid (siOk p n L = true → p' = p ∧ m' = n ∧ c' = n ∧ ∃ B, a' = some ⟨B, 0, none⟩ ∧ PartS w2 B (3 * n) (3 * n) L) := fun h => by
    obtain ⟨e1, e2, e0, B, e3, e4⟩ := HPE.out h
    exact ⟨e1, e2, e0, B, e3, e4.grow hb⟩
  have hA4 := below_setRow (below_al w2 (.cells #[.int .u8 0, .int .u8 0, .int .u8 0, .int .u8 0, .int .u8 0, .int .u8 0, .int .u8 0, .int .u8 0, .int .u8 0, .int .u8 0, .int .u8 0, .int .u8 0, .int .u8 0, .int .u8 0, .int .u8 0, .int .u8 0] 63)) w2.heap.size (Nat.le_refl _) (packOf ys m2)
  have HB4 := hide (HB3.out.trans (hA4.mono HB3.out.size))
  have HO4 := hide (own_growK HO3.out hA4)
  have HV4 := hide (keep HV3.out hA4)
  have HPE4 : Hid (siOk p n L = true → p' = p ∧ m' = n ∧ c' = n ∧ ∃ B, a' = some ⟨B, 0, none⟩ ∧ PartS ((w2.alloc (.cells #[.int .u8 0, .int .u8 0, .int .u8 0, .int .u8 0, .int .u8 0, .int .u8 0, .int .u8 0, .int .u8 0, .int .u8 0, .int .u8 0, .int .u8 0, .int .u8 0, .int .u8 0, .int .u8 0, .int .u8 0, .int .u8 0] 63)).setRow w2.heap.size (packOf ys m2)) B (3 * n) (3 * n) L) := fun h => by
    obtain ⟨e1, e2, e0, B, e3, e4⟩ := HPE3.out h
    exact ⟨e1, e2, e0, B, e3, e4.grow hA4⟩
  have hg1 := setRow_same hg0 (packOf ys m2)
  clear hb hm2 HB2 HO2 HV HTK HPE hc0 hc1 hlt hA4 HB3 HO3 HV3 HPE3
  by_cases hok : gdOk p n L ys = true
  rotate_left
  · have HE := hide (igEnd_no (by simpa using hok) HB4.out)
    have hcase : so = false ∨ (so = true ∧ sg = false) := by
      unfold gdOk at hok
      rw [hso.out, hsg.out] at hok
      cases so <;> cases sg <;> simp_all
    clear hok hso hsg HO4 HV4 HPE4 HM2 hg1
    rcases hcase with rfl | ⟨rfl, rfl⟩
    · go_wp2_with (first | ((show wpList _ _ _ (⟨none, .store 63 (.tmp 9) (.tmp 24), _, _, _, _⟩ :: _) _ _); refine wpList_store_row rfl 63 _ _ rfl _ _ rfl rfl 63 _ hg0 (by rw [packOf_size]; exact Try.size63) (by rw [packOf_size]; rfl) (packOf_one _ _) ?_))
      go_ret2
      exact HE.out
    · go_wp2_with (first | ((show wpList _ _ _ (⟨none, .store 63 (.tmp 9) (.tmp 24), _, _, _, _⟩ :: _) _ _); refine wpList_store_row rfl 63 _ _ rfl _ _ rfl rfl 63 _ hg0 (by rw [packOf_size]; exact Try.size63) (by rw [packOf_size]; rfl) (packOf_one _ _) ?_))
      go_ret2
      exact HE.out
  obtain ⟨hok1, hok2⟩ := gdOk_parts hok
  obtain rfl : so = true := by rw [← hso.out]; exact hok1
  obtain rfl : sg = true := by rw [← hsg.out]; exact hok2
  obtain ⟨hgn, hp1, hp2⟩ := si_parts hok1
  obtain ⟨e1, e2, e0, B, e3, hps⟩ := HPE4.out hok1
  subst e1 e2 e3
  subst e0
  obtain ⟨_, _, hlp, hyb⟩ := good_at hok2
  have hm2' : m2 = nm := HM2.out hok2
  subst hm2'
  have HFB : Hid (∀ i, 0 ≤ fOf ys m2 i ∧ fOf ys m2 i ≤ 255) := fun i => by unfold fOf; split; have := hyb i; omega; omega
  have HMK := hide (markedI_any (fOf ys m2) ((w2.alloc (.cells #[.int .u8 0, .int .u8 0, .int .u8 0, .int .u8 0, .int .u8 0, .int .u8 0, .int .u8 0, .int .u8 0, .int .u8 0, .int .u8 0, .int .u8 0, .int .u8 0, .int .u8 0, .int .u8 0, .int .u8 0, .int .u8 0] 63)).setRow w2.heap.size (packOf ys m2)) HFB.out)
  have hmkq : maskL (posL (fOf ys m2) 16) = mkOf ys := by unfold mkOf; rw [hyl]
  rw [hmkq] at HMK
  have hmkl := mkOf_lt ys
  have HGR : Hid (∀ (b : Bool) (W : World), (b = true ∧ NoG c' L (mkOf ys) (spN p' c' L)) ∨ (b = false ∧ GdL c' L (mkOf ys) (spN p' c' L)) → Below w.heap.size w W → IgEnd p' c' L ys w (.returned (.tuple #[.bool (!b), .bool true])) W) := fun b W hb hW => by
    refine ⟨!b, by rw [hok], ⟨fun e => (by rw [hok] at e; cases e), fun _ => ?_⟩, hW⟩
    rcases hb with ⟨rfl, h1⟩ | ⟨rfl, h1⟩
    · exact .inr ⟨rfl, h1⟩
    · exact .inl ⟨rfl, h1⟩
  obtain ⟨l, hl⟩ : ∃ l, Hid (spN p' c' L = l) := ⟨_, rfl⟩
  have HLT : Hid (∀ s ∈ l, s < 2 ^ 16) := fun s hs => by rw [← hl.out] at hs; have := (spN_mem hs).2.1; omega
  have hlm : m ≤ 1024 := by have h1 := HO4.out.1; rw [encS_len] at h1; have h2 := spN_len p' c' L; omega
  rw [hl.out] at HO4 HGR
  obtain ⟨mk, hmk⟩ : ∃ mk, Hid (mkOf ys = mk) := ⟨_, rfl⟩
  rw [hmk.out] at HMK hmkl HGR
  have HMM := hide (net_masks hgn HLl.out)
  have hn24 := netN hgn
  have HPS := hide hps
  obtain ⟨av, cv, rfl⟩ := own_slice HO4.out
  clear hok hok1 hok2 hso hsg hgn HPE4 hps HM2 HFB hyb hmk hl hmkq HLl
  go_wp2_with (first | ((show wpList _ _ _ (⟨none, .store 63 (.tmp 9) (.tmp 24), _, _, _, _⟩ :: _) _ _); refine wpList_store_row rfl 63 _ _ rfl _ _ rfl rfl 63 _ hg0 (by rw [packOf_size]; exact Try.size63) (by rw [packOf_size]; rfl) (packOf_one _ _) ?_) | ((show wpList _ _ _ (⟨some 32, .load 63 (.tmp 9), _, _, _, _⟩ :: _) _ _); refine wpList_load_row rfl 63 (.tmp 9) rfl _ rfl 63 (packOf ys m2) (0, 0) _ hg1 Try.underlying63 rfl (by rw [packOf_size]; exact Try.size63) ?_))
  clear hg0 hg1
  generalize (w2.alloc (.cells #[.int .u8 0, .int .u8 0, .int .u8 0, .int .u8 0, .int .u8 0, .int .u8 0, .int .u8 0, .int .u8 0, .int .u8 0, .int .u8 0, .int .u8 0, .int .u8 0, .int .u8 0, .int .u8 0, .int .u8 0, .int .u8 0] 63)).setRow w2.heap.size (packOf ys m2) = V4 at *
  refine HMK.out.mono ?_
  rintro e w3 ⟨rfl, rfl⟩
  have hA5 := below_al V4 (.cells (tokF (fOf ys m2)) 63)
  obtain ⟨V5, hV5⟩ : ∃ V, V4.alloc (.cells (tokF (fOf ys m2)) 63) = V := ⟨_, rfl⟩
  rw [hV5] at hA5
  have hA6 := below_al V5 (.cells #[.int .u16 (mk : Int)] 67)
  have hb6 := hA5.trans (hA6.mono hA5.size)
  have HB6 := hide (HB4.out.trans (hb6.mono HB4.out.size))
  have HOA := hide (openC_any p' B c' z V5.heap.size mk _ m cv av l L (V5.alloc (.cells #[.int .u16 (mk : Int)] 67)) (HPS.out.grow hb6) hn24 hmkl HMM.out (keep HV4.out hb6) (heap_alloc_new V5 _) (own_growK HO4.out hb6) hlm HLT.out)
  have hmf : ∀ (fn : Fn) (first cap : Array Value) (w : World), (Instr.makeFunc fn first cap).run Try.prog w = .ok (.func fn first cap) w := fun _ _ _ _ => rfl
  rw [hV5]
  clear hA5 hA6 hb6 HB4 HO4 HV4 HPS HMK HLT HMM
  go_wp2_with fail
  refine HOA.out.mono ?_
  rintro e w7 ⟨b, rfl, hbb, hb7⟩
  have HE := hide (HGR.out b w7 hbb.out (HB6.out.trans (hb7.mono HB6.out.size)))
  clear HOA HGR hbb hb7 HB6
  go_wp2_with fail
  go_ret2
  exact HE.out
end Go.Proofs.Ytmhgdhkpceggkab


/- The specification's IsGuarded; both told alike. -/
namespace Go.Proofs.Ytmhgdhkpceggkab
open Go.RowKit
set_option maxRecDepth 10000

def anyB (zs ys : List Int) : Bool := zs.any fun x => decide (0 < ys.getD x.toNat 0)

theorem anyB_take {zs ys : List Int} {k : Nat} {x : Int} (h : zs[k]? = some x) : anyB (zs.take (k + 1)) ys = (anyB (zs.take k) ys || decide (0 < ys.getD x.toNat 0)) := by
  unfold anyB
  rw [List.take_add_one, h, List.any_append]; simp

theorem anyB_mask {p : Int} {zs ys : List Int} (hz : riseB zs 0 (p - 1) = true) (hl : ys.length ≤ 16) : anyB zs ys = !decide (maskL zs &&& mkOf ys = 0) := by
  have nz := fun z hz' => (riseB_mem hz z hz').1
  by_cases h : maskL zs &&& mkOf ys = 0
  · simp only [h, decide_true, Bool.not_true]
    unfold anyB
    rw [List.any_eq_false]
    intro z hz'
    have h0 := nz z hz'
    have hb : (maskL zs &&& mkOf ys).testBit z.toNat = false := by rw [h]; exact Nat.zero_testBit _
    rw [Nat.testBit_and, maskL_bit zs _ nz, mkOf_bit hl, Int.toNat_of_nonneg h0] at hb
    simpa [hz'] using hb
  · simp only [h, decide_false, Bool.not_false]
    obtain ⟨i, hi⟩ := Nat.exists_testBit_of_ne_zero h
    rw [Nat.testBit_and, maskL_bit zs _ nz, mkOf_bit hl] at hi
    simp at hi
    unfold anyB
    rw [List.any_eq_true]
    exact ⟨i, hi.1, by simpa using hi.2⟩

theorem listsN_get {l : List Nat} {k : Nat} (hk : k < l.length) : (listsN l).getD k [] = nums2 (l.getD k 0).testBit 16 := by
  unfold listsN
  rw [List.getD_eq_getElem?_getD, List.getElem?_map, List.getElem?_eq_getElem hk, List.getD_eq_getElem?_getD, List.getElem?_eq_getElem hk]; rfl

theorem LRow.grow' {w w' : World} {B : Nat} {v : Value} {K : List (List Int)} (h : LRow w B v K) (hb : Below w.heap.size w w') : LRow w' B v K := h.grow hb

set_option maxHeartbeats 1000000 in
theorem isGuardedS_any (p : Int) (a am : Option Addr) (n c nm cm : Nat) (L : List (List Int)) (ys : List Int) (w : World) (h : Lists w a (3 * n) L) (rm : Row w am nm ys) (hs : sizeN n L ≤ 1048576) (hnm : nm ≤ 1048576) :
    Calls Try.prog 14 #[.agg #[.int .i64 p, .slice a n c], .slice am nm cm] w fun e w' => IgEnd p n L ys w e w' := by
  have hAl := below_al w (.cells #[.int .i64 p, .slice a n c] 31)
  have HT := hide (plainS_any p a n c L _ (h.below hAl) hs)
  have HN0 := hide (heap_alloc_new w (.cells #[.int .i64 p, .slice a n c] 31))
  have HRM := hide (rm.below hAl)
  have HL := hide h
  have HB0 := hide hAl
  have hyl : ys.length = nm := rm.1
  clear h rm hAl
  go_enter Try.func14, Try.ntmps14
  go_wp2_with fail
  refine HT.out.mono ?_
  rintro e w1 ⟨rfl, hb⟩
  have HB1 := hide (HB0.out.trans (hb.mono HB0.out.size))
  have HN1 := hide (keep HN0.out hb)
  have HRM1 := hide (HRM.out.below hb)
  obtain ⟨hc0, hc1⟩ := cells2 HN1.out
  have hlt := row_lt HN1.out
  have HG := hide (goodS_any p am nm cm ys w1 HRM1.out hnm)
  clear hb HT HB0 HN0 HRM
  cases hpl : plainB p n L
  case false =>
    have HE := hide (igEnd_no (ys := ys) (show gdOk p n L ys = false by unfold gdOk siOk; rw [hpl]; rfl) HB1.out)
    clear hpl HG
    go_wp2_with fail
    go_ret2
    exact HE.out
  by_cases h10 : p ≤ 10
  rotate_left
  · have hd : (10 : Int) < p := by omega
    have HE := hide (igEnd_no (ys := ys) (show gdOk p n L ys = false by unfold gdOk siOk; simp [h10]) HB1.out)
    clear hpl HG h10
    go_wp2_with fail
    go_ret2
    exact HE.out
  have hd : ¬ (10 : Int) < p := by omega
  have hsi : siOk p n L = true := by unfold siOk; rw [hpl]; simp [h10]
  cases hgd : goodB p ys
  case false =>
    have HE := hide (igEnd_no (ys := ys) (show gdOk p n L ys = false by unfold gdOk; rw [hgd]; simp) HB1.out)
    rw [hgd] at HG
    clear hpl hgd hsi
    go_wp2_with fail
    refine HG.out.mono ?_
    rintro e w2 ⟨rfl, rfl⟩
    go_wp2_with fail
    go_ret2
    exact HE.out
  have hok : gdOk p n L ys = true := by unfold gdOk; rw [hsi, hgd]; rfl
  obtain ⟨hgn, hp1, hp2⟩ := si_parts hsi
  obtain ⟨_, hp16, hlp, hyb⟩ := good_at hgd
  obtain ⟨P, rfl⟩ : ∃ P : Nat, p = (P : Int) := ⟨p.toNat, by omega⟩
  have hP10 : P ≤ 10 := by omega
  have hmP : nm = P := by omega
  have HSM := hide (smallS8_any P a n c L w1 (HL.out.below HB1.out) hgn hP10)
  have hspn : smallN (fun s => !slips true s n L) (2 ^ P - 1) = spN (P : Int) n L := by unfold spN; rw [if_pos hsi, Int.toNat_natCast]
  rw [hspn] at HSM
  have HGR : Hid (∀ (b : Bool) (W : World), (b = true ∧ GdL n L (mkOf ys) (spN (P : Int) n L)) ∨ (b = false ∧ NoG n L (mkOf ys) (spN (P : Int) n L)) → Below w.heap.size w W → IgEnd (P : Int) n L ys w (.returned (.tuple #[.bool b, .bool true])) W) := fun b W hb hW => by
    refine ⟨b, by rw [hok], ⟨fun e => (by rw [hok] at e; cases e), fun _ => hb⟩, hW⟩
  obtain ⟨l, hl⟩ : ∃ l, Hid (spN (P : Int) n L = l) := ⟨_, rfl⟩
  have HLT : Hid (∀ s ∈ l, s < 2 ^ P ∧ s < 1024) := fun s hs => by rw [← hl.out] at hs; have := (spN_mem hs).2; rw [Int.toNat_natCast] at this; exact ⟨this.2, this.1⟩
  have hll : l.length ≤ 1024 := by rw [← hl.out]; exact spN_len _ _ _
  rw [hl.out] at HSM HGR
  obtain ⟨mk, hmk⟩ : ∃ mk, Hid (mkOf ys = mk) := ⟨_, rfl⟩
  have HANY : Hid (∀ zs, riseB zs 0 ((P : Int) - 1) = true → anyB zs ys = !decide (maskL zs &&& mk = 0)) := fun zs hz => by rw [← hmk.out]; exact anyB_mask hz (by omega)
  rw [hmk.out] at HGR
  have HMP := hide hmP
  have HGN := hide hgn
  rw [hgd] at HG
  clear hpl hgd hsi hok hgn hspn hl hmk hyb h10 hlp hmP hyl hc0 hc1
  obtain ⟨hc0, hc1⟩ := cells2 HN1.out
  go_wp2_with fail
  refine HG.out.mono ?_
  rintro e w2 ⟨rfl, rfl⟩
  clear HG
  go_wp2_with fail
  refine HSM.out.mono ?_
  rintro e w3 ⟨v, rfl, hlr, hb⟩
  have HB3 := hide (HB1.out.trans (hb.mono HB1.out.size))
  have HN3 := hide (keep HN1.out hb)
  have HRM3 := hide (HRM1.out.below hb)
  have HLR := hide hlr
  obtain ⟨av, cv, rfl, _⟩ := hlr.lists (listsN_at l)
  rw [listsN_len] at *
  clear hb hlr HSM HB1 HN1 HRM1 hc0 hc1 hlt
  go_wp2_with fail
  go_loopw [29, 7, 8] (fun i _ _ wr => ∃ k : Nat, k ≤ l.length ∧ i = .int .i64 k ∧ Hid (GdL n L mk (l.take k)) ∧ Hid (LRow wr w2.heap.size (.slice av l.length cv) (listsN l)) ∧ Hid (wr.heap[w.heap.size]? = some (.cells #[.int .i64 (P : Int), .slice a n c] 31 (0, 0))) ∧ Hid (Row wr am nm ys) ∧ Hid (Below w.heap.size w wr)) (fun i _ _ _ => l.length - (intOf i).toNat)
  case atStart => exact ⟨0, Nat.zero_le _, rfl, fun s hs => by simp at hs, HLR, HN3, HRM3, HB3⟩
  case round =>
    clear HLR HN3 HRM3 HB3
    obtain ⟨k, hk, rfl, hgdl, hlr, hv, hrm, hbel⟩ := hrel
    by_cases hkl : k < l.length
    rotate_left
    · have hk' : l.length = k := by omega
      have HE := hide (HGR.out true wr (.inl ⟨rfl, by have := hgdl.out; rw [List.take_of_length_le (by omega)] at this; exact this⟩) hbel.out)
      clear HGR hgdl hlr hv hrm HANY
      have hkl' : ¬ ((k : Int) < (l.length : Int)) := by omega
      go_wp2_with fail
      go_ret2
      exact HE.out
    obtain ⟨g, cap, ax, nx, cx, ev, hgl, hcg, hrx⟩ := hlr.out.at (show k < (listsN l).length by rw [listsN_len]; exact hkl)
    injection ev with e1 _ e3
    subst e1 e3
    rw [listsN_get hkl] at hrx
    have hlk : l[k]? = some (l.getD k 0) := by rw [List.getD_eq_getElem?_getD, List.getElem?_eq_getElem hkl]; rfl
    obtain ⟨s, hss⟩ : ∃ s, Hid (l.getD k 0 = s) := ⟨_, rfl⟩
    rw [hss.out] at hrx hlk
    obtain ⟨hs1, hs2⟩ := HLT.out s (List.mem_of_getElem? hlk)
    have hnx : nx ≤ 16 := by have h1 := hrx.1; have h2 := nums_len s.testBit 16; omega
    have HBT := hide (l8BigTrap_any P a ax n c nx cx L (nums2 s.testBit 16) wr (HL.out.below hbel.out) hrx hnx HGN.out (nums_rise hs1))
    rw [mask_nums s (by omega)] at HBT
    obtain ⟨hc0, hc1⟩ := cells2 hv.out
    have hlt := row_lt hv.out
    have HLK := hide hlk
    have hkli : (k : Int) < (l.length : Int) := by omega
    clear hlk hss hrx
    go_wp2_with fail
    refine HBT.out.mono ?_
    rintro e w4 ⟨a2, m2, c2, zs, rfl, hr2, hz2, hg2, hb⟩
    have HB4 := hide (hbel.out.trans (hb.mono hbel.out.size))
    have HN4 := hide (keep hv.out hb)
    have HRM4 := hide (hrm.out.below hb)
    have HLR4 := hide (hlr.out.grow hb)
    have HR2 := hide hr2
    have HZ2 := hide hz2
    have HG2 := hide hg2
    have hzl : zs.length = m2 := hr2.1
    have hm16 : m2 ≤ 16 := by rcases rise_len hz2 with e | e; omega; rw [e] at hzl; simp at hzl; omega
    clear hb hr2 hz2 hg2 HBT hbel hv hrm hlr hc0 hc1 hlt hcg hgl
    go_wp2_with fail
    go_loop [8, 37, 10] (fun b j _ => ∃ q : Nat, q ≤ m2 ∧ j = .int .i64 q ∧ b = .bool (anyB (zs.take q) ys)) (fun _ j _ => m2 - (intOf j).toNat)
    case atStart => exact ⟨0, Nat.zero_le _, rfl, rfl⟩
    case round =>
      obtain ⟨q, hq, rfl, rfl⟩ := hrel
      by_cases hqm : q < m2
      rotate_left
      · have hq' : m2 = q := by omega
        rw [List.take_of_length_le (by omega), HANY.out zs HZ2.out]
        cases hd : decide (maskL zs &&& mk = 0)
        · have HU := hide (hgdl.out.step HLK.out HG2.out (of_decide_eq_false hd))
          clear hd HGR HR2
          go_wp2_with fail
          go_roundw
          case rel =>
            have hkk : k + 1 ≤ (listsN l).length := by rw [listsN_len]; exact hkl
            refine ⟨_, _, _, _, _, _, ⟨k + 1, hkk, ?_, HU, ?_⟩, rfl, rfl, rfl, rfl, rfl, rfl⟩
            · go_num
            · show LRow _ _ _ _
              rw [listsN_len]; exact HLR4.out
          case measure => simp [intOf]; omega
        · have HE := hide (HGR.out false w4 (.inr ⟨rfl, s, List.mem_of_getElem? HLK.out, maskL zs, HG2.out, of_decide_eq_true hd⟩) HB4.out)
          clear hd HGR HR2
          go_wp2_with fail
          go_ret2
          exact HE.out
      obtain ⟨b1, o1, x, rfl, hl1, hc1, H1⟩ := HR2.out.at hqm
      obtain ⟨hx0, hx1⟩ := riseB_mem HZ2.out x (List.mem_of_getElem? H1.out)
      obtain ⟨y, rfl⟩ : ∃ y : Nat, x = (y : Int) := ⟨x.toNat, by omega⟩
      obtain ⟨b2, o2, t, rfl, hl2, hc2, H2⟩ := HRM4.out.at (show y < nm by have := HMP.out; omega)
      have HST := hide (anyB_take (ys := ys) H1.out)
      rw [Int.toNat_natCast, getD_at H2] at HST
      have hqi : (q : Int) < 16 := by omega
      have hym : (y : Int) < (nm : Int) := by have := HMP.out; omega
      obtain ⟨b0, hb0⟩ : ∃ b, Hid (anyB (zs.take q) ys = b) := ⟨_, rfl⟩
      rw [hb0.out] at HST ⊢
      cases b0
      · go_wp2_with fail
        go_round
        case rel => exact ⟨q + 1, by omega, by go_num, by rw [HST.out]; rfl⟩
        case measure => simp [intOf]; omega
      · go_wp2_with fail
        go_round
        case rel => exact ⟨q + 1, by omega, by go_num, by rw [HST.out]; rfl⟩
        case measure => simp [intOf]; omega

theorem gd_pack (p : Int) (n : Nat) (L : List (List Int)) (ys : List Int) (hs : sizeN n L ≤ 1048576) : ∃ (b g : Bool),
    Hid (∀ (a am : Option Addr) (c nm cm : Nat) (w : World), Lists w a (3 * n) L → Row w am nm ys → nm ≤ 1048576 → Calls Try.prog 14 #[.agg #[.int .i64 p, .slice a n c], .slice am nm cm] w fun e w' => e = .returned (.tuple #[.bool b, .bool g]) ∧ Below w.heap.size w w') ∧
    Hid (∀ (a am : Option Addr) (c nm cm : Nat) (w : World), Lists w a (3 * n) L → Row w am nm ys → nm ≤ 1048576 → Calls Try.prog 16 #[.agg #[.int .i64 p, .slice a n c], .slice am nm cm] w fun e w' => e = .returned (.tuple #[.bool b, .bool g]) ∧ Below w.heap.size w w') := by
  obtain ⟨b, hb⟩ : ∃ b : Bool, ∀ b', GdR p n L ys b' → b' = b := by
    by_cases h : ∃ b, GdR p n L ys b
    · obtain ⟨b, hb⟩ := h
      exact ⟨b, fun b' h' => h'.same hb⟩
    · exact ⟨false, fun b' h' => absurd ⟨b', h'⟩ h⟩
  refine ⟨b, gdOk p n L ys, fun a am c nm cm w hl hy hn => ?_, fun a am c nm cm w hl hy hn => ?_⟩
  · refine (isGuardedS_any p a am n c nm cm L ys w hl hy hs hn).mono ?_
    rintro e w' ⟨b', rfl, h1, h2⟩
    exact ⟨by rw [hb b' h1], h2⟩
  · refine (isGuardedI_any p a am n c nm cm L ys w hl hy hs hn).mono ?_
    rintro e w' ⟨b', rfl, h1, h2⟩
    exact ⟨by rw [hb b' h1], h2⟩
end Go.Proofs.Ytmhgdhkpceggkab
