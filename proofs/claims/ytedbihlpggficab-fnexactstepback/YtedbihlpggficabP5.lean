/- Contracts that the proof stands on, one behind the other. -/
import Derived.Test.YtedbihlpggficabP4
import Derived.Deep.RegionHeld3
import Derived.Deep.MidRow
import Derived.Deep.AppendLies
/- A step back: by sets, as the program does it, and by lists, as the specification does it; both are the same. Mathematics alone. -/
namespace Go.Proofs.Ytedbihlpggficab
open Go.RowKit
set_option maxRecDepth 10000

/-- What is left of a place when what a step gives is taken. -/
def outF (s1 : Nat) (f : Nat → Int) (i : Nat) : Int := if s1.testBit i && decide (0 < f i) then f i - 1 else f i
def bkF (s0 s1 : Nat) (f : Nat → Int) (i : Nat) : Int := outF s1 f i + (if s0.testBit i then 1 else 0)
/-- No emptied place among the first k keeps more than it is given. -/
def bkOk (s1 s2 : Nat) (f : Nat → Int) (k : Nat) : Bool := (List.range k).all fun i => !(s2.testBit i && decide (0 < outF s1 f i))
/-- The first k places are ahead of the step. -/
def bkP (s0 s1 : Nat) (f : Nat → Int) (k : Nat) : Nat → Int := fun i => if i < k then bkF s0 s1 f i else f i
/-- .. and the place k has v. -/
def bkM (s0 s1 : Nat) (f : Nat → Int) (k : Nat) (v : Int) : Nat → Int := fun i => if i = k then v else bkP s0 s1 f k i

theorem bkM_at (s0 s1 : Nat) (f : Nat → Int) (k : Nat) (hk : k < 16) (v : Int) : (tokF (bkM s0 s1 f k v))[k]? = some (.int .u8 v) := by
  rw [tokF_at _ _ hk]; unfold bkM; rw [if_pos rfl]
theorem bkM_set (s0 s1 : Nat) (f : Nat → Int) (k : Nat) (v v' : Int) : (tokF (bkM s0 s1 f k v)).setIfInBounds k (.int .u8 v') = tokF (bkM s0 s1 f k v') := by
  refine tokF_set _ _ k _ ?_ fun i hi => ?_
  · unfold bkM; rw [if_pos rfl]
  · unfold bkM; rw [if_neg hi, if_neg hi]
theorem bkM_start (s0 s1 : Nat) (f : Nat → Int) (k : Nat) : bkP s0 s1 f k = bkM s0 s1 f k (f k) := by
  funext i; unfold bkM
  by_cases h : i = k
  · subst h; rw [if_pos rfl]; unfold bkP; rw [if_neg (by omega)]
  · rw [if_neg h]
theorem bkM_end (s0 s1 : Nat) (f : Nat → Int) (k : Nat) : bkM s0 s1 f k (bkF s0 s1 f k) = bkP s0 s1 f (k + 1) := by
  funext i; unfold bkM bkP
  by_cases h : i = k
  · subst h; rw [if_pos rfl, if_pos (by omega)]
  · rw [if_neg h]
    by_cases h2 : i < k
    · rw [if_pos h2, if_pos (by omega)]
    · rw [if_neg h2, if_neg (by omega)]
theorem bkP_zero (s0 s1 : Nat) (f : Nat → Int) : bkP s0 s1 f 0 = f := by funext i; unfold bkP; rw [if_neg (by omega)]

theorem bkOk_succ {s1 s2 : Nat} {f : Nat → Int} {k : Nat} (h : bkOk s1 s2 f k = true) (hk : (s2.testBit k && decide (0 < outF s1 f k)) = false) : bkOk s1 s2 f (k + 1) = true := by
  unfold bkOk at *
  rw [List.range_succ, List.all_append, h]
  simp only [List.all_cons, List.all_nil, Bool.and_true, hk]; rfl
theorem bkOk_not {s1 s2 : Nat} {f : Nat → Int} {k : Nat} (hk : k < 16) (h : (s2.testBit k && decide (0 < outF s1 f k)) = true) : bkOk s1 s2 f 16 = false := by
  unfold bkOk
  rw [List.all_eq_false]
  exact ⟨k, by simpa using hk, by rw [h]; decide⟩

/-- Some number is greater than 50. -/
def overB (f : Nat → Int) (k : Nat) : Bool := (List.range k).any fun i => decide (50 < f i)
theorem overB_succ {f : Nat → Int} {k : Nat} (h : overB f k = false) (hk : ¬ 50 < f k) : overB f (k + 1) = false := by
  unfold overB at *
  rw [List.range_succ, List.any_append, h]
  simp [hk]
theorem overB_yes {f : Nat → Int} {k : Nat} (hk : k < 16) (h : 50 < f k) : overB f 16 = true := by
  unfold overB
  rw [List.any_eq_true]
  exact ⟨k, by simpa using hk, by simpa using h⟩

theorem outF_pos {s1 : Nat} {f : Nat → Int} (hf : ∀ i, 0 ≤ f i ∧ f i ≤ 50) (i : Nat) : 0 ≤ outF s1 f i ∧ outF s1 f i ≤ 50 := by
  have := hf i
  unfold outF
  split
  · rename_i h; simp only [Bool.and_eq_true, decide_eq_true_eq] at h; omega
  · omega
theorem bkF_pos {s0 s1 : Nat} {f : Nat → Int} (hf : ∀ i, 0 ≤ f i ∧ f i ≤ 50) (i : Nat) : 0 ≤ bkF s0 s1 f i ∧ bkF s0 s1 f i ≤ 51 := by
  have := outF_pos (s1 := s1) hf i
  unfold bkF
  split <;> omega
theorem bkP_pos {s0 s1 : Nat} {f : Nat → Int} (hf : ∀ i, 0 ≤ f i ∧ f i ≤ 50) (k i : Nat) : 0 ≤ bkP s0 s1 f k i ∧ bkP s0 s1 f k i ≤ 51 := by
  unfold bkP
  split
  · exact bkF_pos hf i
  · have := hf i; omega

/-- By lists: what m asks of a place ahead of the step. -/
def one01 (b : Bool) : Int := if b then 1 else 0
def sbV (x0 x1 x2 : List Int) (i v : Int) : Int := if hasB x2 i then one01 (hasB x0 i) else (if v - one01 (hasB x1 i) < 0 then 0 else v - one01 (hasB x1 i)) + one01 (hasB x0 i)
def sbNo (x1 x2 : List Int) (i v : Int) : Bool := hasB x2 i && decide (one01 (hasB x1 i) < v)
def sbL (x0 x1 x2 ys : List Int) (k : Nat) : List Int := (List.range k).map fun (i : Nat) => sbV x0 x1 x2 (i : Int) (ys.getD i 0)
def sbOkL (x1 x2 ys : List Int) (k : Nat) : Bool := (List.range k).all fun (i : Nat) => !(sbNo x1 x2 (i : Int) (ys.getD i 0))

theorem sbL_len (x0 x1 x2 ys : List Int) (k : Nat) : (sbL x0 x1 x2 ys k).length = k := by simp [sbL]
theorem sbL_succ (x0 x1 x2 ys : List Int) (k : Nat) : sbL x0 x1 x2 ys (k + 1) = sbL x0 x1 x2 ys k ++ [sbV x0 x1 x2 (k : Int) (ys.getD k 0)] := by simp [sbL, List.range_succ]
theorem sbL_at (x0 x1 x2 ys : List Int) (k i : Nat) (h : i < k) : (sbL x0 x1 x2 ys k).getD i 0 = sbV x0 x1 x2 (i : Int) (ys.getD i 0) := by
  rw [List.getD_eq_getElem?_getD, List.getElem?_eq_getElem (by rw [sbL_len]; exact h)]
  simp [sbL]
theorem sbOkL_succ {x1 x2 ys : List Int} {k : Nat} (h : sbOkL x1 x2 ys k = true) (hk : sbNo x1 x2 (k : Int) (ys.getD k 0) = false) : sbOkL x1 x2 ys (k + 1) = true := by
  unfold sbOkL at *
  rw [List.range_succ, List.all_append, h]
  simp only [List.all_cons, List.all_nil, Bool.and_true, hk]; rfl
theorem sbOkL_not {x1 x2 ys : List Int} {k n : Nat} (hk : k < n) (h : sbNo x1 x2 (k : Int) (ys.getD k 0) = true) : sbOkL x1 x2 ys n = false := by
  unfold sbOkL
  rw [List.all_eq_false]
  exact ⟨k, by simpa using hk, by rw [h]; decide⟩

theorem hasB_bit {xs : List Int} {p : Int} (h : riseB xs 0 (p - 1) = true) (i : Nat) : (maskL xs).testBit i = hasB xs (i : Int) := by
  rw [maskL_bit _ _ (fun z hz => (riseB_mem h z hz).1)]
  unfold hasB
  rw [List.contains_eq_mem]

section
variable {p : Int} {nm : Nat} {x0 x1 x2 ys : List Int} (hp : 1 ≤ p ∧ p ≤ 16) (hnm : (nm : Int) = p) (hly : ys.length = nm) (hy : ∀ i, 0 ≤ ys.getD i 0 ∧ ys.getD i 0 ≤ 50)
  (h0 : riseB x0 0 (p - 1) = true) (h1 : riseB x1 0 (p - 1) = true) (h2 : riseB x2 0 (p - 1) = true)

include hnm h0 in
theorem out_bit {i : Nat} (hi : ¬ i < nm) : hasB x0 (i : Int) = false := by
  unfold hasB
  rw [List.contains_eq_mem, decide_eq_false_iff_not]
  intro h
  have := riseB_mem h0 _ h
  omega

include hnm hy h1 h2 in
theorem sb_no (i : Nat) : ((maskL x2).testBit i && decide (0 < outF (maskL x1) (fOf ys nm) i)) = (decide (i < nm) && sbNo x1 x2 (i : Int) (ys.getD i 0)) := by
  unfold outF sbNo one01
  rw [hasB_bit h1, hasB_bit h2]
  have hyi := hy i
  by_cases hi : i < nm
  · have hf : fOf ys nm i = ys.getD i 0 := by unfold fOf; rw [if_pos hi]
    rw [hf]
    generalize ys.getD i 0 = v at *
    cases hasB x2 (i : Int)
    · simp
    · cases hasB x1 (i : Int)
      · simp [hi]
      · simp only [Bool.true_and, hi, decide_true]
        by_cases hv : 0 < v
        · by_cases h3 : 1 < v
          · simp [hv, h3]
          · simp [hv, h3]
        · have h3 : ¬ 1 < v := by omega
          simp [hv, h3]
  · rw [out_bit hnm h2 hi]; simp

include hnm hp hy h1 h2 in
theorem sb_ok : bkOk (maskL x1) (maskL x2) (fOf ys nm) 16 = sbOkL x1 x2 ys nm := by
  rw [Bool.eq_iff_iff]
  unfold bkOk sbOkL
  rw [List.all_eq_true, List.all_eq_true]
  constructor
  · intro h i hi
    have hi' : i < nm := by simpa using hi
    have := h i (by simp; omega)
    rw [sb_no hnm hy h1 h2 i] at this
    simpa [hi'] using this
  · intro h i _
    rw [sb_no hnm hy h1 h2 i]
    by_cases hi : i < nm
    · have := h i (by simpa using hi)
      simpa [hi] using this
    · simp [hi]

include hnm hy h0 h1 h2 in
theorem sb_val (hok : sbOkL x1 x2 ys nm = true) (i : Nat) : bkF (maskL x0) (maskL x1) (fOf ys nm) i = if i < nm then sbV x0 x1 x2 (i : Int) (ys.getD i 0) else 0 := by
  unfold bkF
  rw [hasB_bit h0]
  by_cases hi : i < nm
  · rw [if_pos hi]
    have hb := sb_no hnm hy h1 h2 i
    have hn : sbNo x1 x2 (i : Int) (ys.getD i 0) = false := by
      unfold sbOkL at hok
      rw [List.all_eq_true] at hok
      have := hok i (by simpa using hi)
      simpa using this
    rw [hn, Bool.and_false, hasB_bit h2] at hb
    have hf : fOf ys nm i = ys.getD i 0 := by unfold fOf; rw [if_pos hi]
    have hyi := hy i
    unfold outF at hb ⊢
    rw [hasB_bit h1, hf] at hb ⊢
    unfold sbV one01
    generalize ys.getD i 0 = v at *
    clear hn hf hok
    generalize hasB x2 (i : Int) = c2 at *
    generalize hasB x1 (i : Int) = c1 at *
    generalize hasB x0 (i : Int) = c0 at *
    by_cases hv : 0 < v
    · by_cases hv1 : 0 < v - 1
      · have hv2 : ¬ v - 1 < 0 := by omega
        have hv3 : ¬ v < 0 := by omega
        cases c0 <;> cases c1 <;> cases c2 <;> simp [hv, hv2, hv3] at hb ⊢
        all_goals omega
      · have hv2 : v = 1 := by omega
        subst hv2
        cases c0 <;> cases c1 <;> cases c2 <;> simp at hb ⊢
    · have hv2 : v = 0 := by omega
      subst hv2
      cases c0 <;> cases c1 <;> cases c2 <;> simp at hb ⊢
  · rw [if_neg hi, out_bit hnm h0 hi]
    unfold outF fOf
    rw [if_neg hi]
    simp

include hnm hp hly hy h0 h1 h2 in
theorem sb_good (hok : sbOkL x1 x2 ys nm = true) : goodB p (sbL x0 x1 x2 ys nm) = !overB (bkF (maskL x0) (maskL x1) (fOf ys nm)) 16 := by
  have hf : ∀ i, 0 ≤ fOf ys nm i ∧ fOf ys nm i ≤ 50 := by
    intro i; unfold fOf; split
    · exact hy i
    · omega
  have key := sb_val hnm hy h0 h1 h2 hok
  have hpos := fun i => (bkF_pos (s0 := maskL x0) (s1 := maskL x1) hf i).1
  rw [Bool.eq_iff_iff]
  constructor
  · intro hg
    have hh := (goodB_parts hg).2.2
    rw [Bool.not_eq_true']
    unfold overB
    rw [List.any_eq_false]
    intro i _
    rw [decide_eq_true_eq, key i]
    split
    · rename_i hi
      have := hh i
      rw [sbL_at _ _ _ _ _ _ hi] at this
      omega
    · omega
  · intro h
    rw [Bool.not_eq_true'] at h
    unfold overB at h
    rw [List.any_eq_false] at h
    unfold goodB
    have hin : inB p 1 16 = true := by unfold inB; simp; exact hp
    rw [hin, sbL_len]
    simp only [hnm, decide_true, Bool.true_and]
    unfold allB
    rw [List.all_eq_true]
    intro x hx
    obtain ⟨i, hi, rfl⟩ := List.mem_iff_getElem.mp hx
    rw [sbL_len] at hi
    have e1 := h i (by simp; omega)
    have e2 := hpos i
    rw [decide_eq_true_eq, key i, if_pos hi] at e1
    rw [key i, if_pos hi] at e2
    simp only [sbL, List.getElem_map, List.getElem_range]
    unfold inB
    simp only [Bool.and_eq_true, decide_eq_true_eq]
    omega

include hnm hy h0 h1 h2 in
theorem sb_list (hok : sbOkL x1 x2 ys nm = true) : listF (bkF (maskL x0) (maskL x1) (fOf ys nm)) nm = sbL x0 x1 x2 ys nm := by
  apply List.ext_getElem?
  intro i
  by_cases hi : i < nm
  · have := listF_at (bkF (maskL x0) (maskL x1) (fOf ys nm)) nm i hi
    rw [List.getD_eq_getElem?_getD, List.getElem?_eq_getElem (by rw [listF_len]; exact hi)] at this
    rw [List.getElem?_eq_getElem (by rw [listF_len]; exact hi), List.getElem?_eq_getElem (by rw [sbL_len]; exact hi)]
    simp only [Option.getD_some] at this
    rw [this, sb_val hnm hy h0 h1 h2 hok i, if_pos hi]
    simp [sbL]
  · rw [List.getElem?_eq_none (by rw [listF_len]; omega), List.getElem?_eq_none (by rw [sbL_len]; omega)]

include hnm hy h0 h1 h2 in
/-- As arrays. -/
theorem sb_pack (hok : sbOkL x1 x2 ys nm = true) : tokF (bkF (maskL x0) (maskL x1) (fOf ys nm)) = packOf (sbL x0 x1 x2 ys nm) nm := by
  unfold packOf
  congr 1
  funext i
  rw [sb_val hnm hy h0 h1 h2 hok i]
  unfold fOf
  split
  · rename_i hi; rw [sbL_at _ _ _ _ _ _ hi]
  · rfl
end

/-- A step back of the transition t. -/
def sbOf (L : List (List Int)) (ys : List Int) (t : Int) (k : Nat) : List Int := sbL (inOf L t) (outOf L t) (resOf L t) ys k
def sbCan (L : List (List Int)) (ys : List Int) (t : Int) (k : Nat) : Bool := sbOkL (outOf L t) (resOf L t) ys k

def sbOk (p : Int) (n : Nat) (L : List (List Int)) (ys : List Int) (t : Int) : Bool :=
  netOk p n L && goodB p ys && inB t 0 ((n : Int) - 1) && sbCan L ys t ys.length && goodB p (sbOf L ys t ys.length)
def sbR (p : Int) (n : Nat) (L : List (List Int)) (ys : List Int) (t : Int) : List Int := if sbOk p n L ys t then sbOf L ys t ys.length else []

theorem sbOk_no1 {p : Int} {n : Nat} {L : List (List Int)} {ys : List Int} {t : Int} (h : (netOk p n L && goodB p ys) = false) : sbOk p n L ys t = false := by unfold sbOk; rw [h]; rfl
theorem sbOk_no2 {p : Int} {n : Nat} {L : List (List Int)} {ys : List Int} {t : Int} (h : inB t 0 ((n : Int) - 1) = false) : sbOk p n L ys t = false := by unfold sbOk; rw [h]; simp
theorem sbOk_no3 {p : Int} {n : Nat} {L : List (List Int)} {ys : List Int} {t : Int} (h : sbCan L ys t ys.length = false) : sbOk p n L ys t = false := by unfold sbOk; rw [h]; simp
theorem sbOk_no4 {p : Int} {n : Nat} {L : List (List Int)} {ys : List Int} {t : Int} (h : goodB p (sbOf L ys t ys.length) = false) : sbOk p n L ys t = false := by unfold sbOk; rw [h]; simp
theorem sbOk_yes {p : Int} {n : Nat} {L : List (List Int)} {ys : List Int} {t : Int} (h : (netOk p n L && goodB p ys) = true) (h2 : inB t 0 ((n : Int) - 1) = true) (h3 : sbCan L ys t ys.length = true) (h4 : goodB p (sbOf L ys t ys.length) = true) : sbOk p n L ys t = true := by
  unfold sbOk; rw [h, h2, h3, h4]; rfl
theorem sbR_len (p : Int) (n : Nat) (L : List (List Int)) (ys : List Int) (t : Int) : (sbR p n L ys t).length ≤ ys.length := by
  unfold sbR; split
  · unfold sbOf; rw [sbL_len]; exact Nat.le_refl _
  · exact Nat.zero_le _

theorem sbR_no {p : Int} {n : Nat} {L : List (List Int)} {ys : List Int} {t : Int} (h : sbOk p n L ys t = false) : sbR p n L ys t = [] := by unfold sbR; rw [h]; rfl
theorem sbR_yes {p : Int} {n : Nat} {L : List (List Int)} {ys : List Int} {t : Int} (h : sbOk p n L ys t = true) : sbR p n L ys t = sbOf L ys t ys.length := by unfold sbR; rw [h]; rfl
end Go.Proofs.Ytedbihlpggficab


/- The program's fire and Fire, for every net, mark and number in memory. -/
namespace Go.Proofs.Ytedbihlpggficab
open Go.RowKit
set_option maxRecDepth 10000

/-- Whether a step of the net fires, by sets. -/
def fireB (n : Nat) (L : List (List Int)) (f : Nat → Int) (t : Int) : Bool :=
  inB t 0 ((n : Int) - 1) && subB (maskL (inOf L t)) (maskL (posL f 16)) && capB (maskL (inOf L t)) (maskL (outOf L t)) (maskL (resOf L t)) f 16

/-- How fire ends. -/
def FiEnd (n : Nat) (L : List (List Int)) (f : Nat → Int) (t : Int) (w : World) (e : Ending) (w' : World) : Prop :=
  ∃ h, e = .returned (.tuple #[.agg (tokF h), .bool (fireB n L f t)]) ∧ Hid (fireB n L f t = true → h = partF (maskL (inOf L t)) (maskL (outOf L t)) (maskL (resOf L t)) f 16) ∧ Below w.heap.size w w'

theorem fiEnd_no {n : Nat} {L : List (List Int)} {f : Nat → Int} {t : Int} {w w' : World} (h : fireB n L f t = false) (hb : Below w.heap.size w w') : FiEnd n L f t w (.returned (.tuple #[.agg #[.int .u8 0, .int .u8 0, .int .u8 0, .int .u8 0, .int .u8 0, .int .u8 0, .int .u8 0, .int .u8 0, .int .u8 0, .int .u8 0, .int .u8 0, .int .u8 0, .int .u8 0, .int .u8 0, .int .u8 0, .int .u8 0], .bool false])) w' :=
  ⟨fun _ => 0, by rw [h, zeros_tok], by rw [h]; intro e; simp at e, hb⟩

theorem PartS.at' {w : World} {B n k : Nat} {L : List (List Int)} (h : PartS w B (3 * n) (3 * n) L) (hk : k < n) :
    w.cell? ⟨B, k * 3, none⟩ = some (.int .u16 (maskL (L.getD (3 * k) []) : Int)) ∧ w.cell? ⟨B, k * 3 + 1, none⟩ = some (.int .u16 (maskL (L.getD (3 * k + 1) []) : Int)) ∧ w.cell? ⟨B, k * 3 + 2, none⟩ = some (.int .u16 (maskL (L.getD (3 * k + 2) []) : Int)) := by
  obtain ⟨C, h1, h2, h3⟩ := h
  refine ⟨?_, ?_, ?_⟩
  · rw [cell_of_row w B _ C _ _ h1, Nat.mul_comm]; exact h3 _ (by omega)
  · rw [cell_of_row w B _ C _ _ h1, Nat.mul_comm]; exact h3 _ (by omega)
  · rw [cell_of_row w B _ C _ _ h1, Nat.mul_comm]; exact h3 _ (by omega)

theorem mask16' {p : Int} {xs : List Int} (h : riseB xs 0 (p - 1) = true) (hp : 1 ≤ p ∧ p ≤ 16) : maskL xs < 2 ^ 16 := by
  refine maskL_lt _ fun x hx => ?_
  have := riseB_mem h x hx
  omega

theorem run_callf {P : Program} {o : Oper} {a : Act} {w : World} (f : FuncId) (fn : Func) (xs : Array Operand) (ts : Array TypeId) (hop : o.op = Op.call { callee := Callee.value (Operand.func f), args := xs, argTypes := ts })
    (hfn : P.funcs[f]? = some fn) (hnm : (fn.name == "runtime.NumGoroutine") = false) (hbd : fn.body.isNone = false) : (execOp a.eval o).run P w = .ok (.enter f (xs.map a.eval)) w := by
  have hnm' : ¬ fn.name = "runtime.NumGoroutine" := by simpa using hnm
  have hbd' : ¬ fn.body = none := by intro e; rw [e] at hbd; simp at hbd
  unfold execOp
  simp only [hop]
  simp [resolve, invoke, go_sem, Act.eval, callFunc, hfn, hnm', hbd']

theorem map1 (g : Operand → Value) (x : Operand) (v : Value) (h : g x = v) : (#[x] : Array Operand).map g = #[v] := by simp [h]
theorem map2 (g : Operand → Value) (x y : Operand) (v u : Value) (h : g x = v) (h2 : g y = u) : (#[x, y] : Array Operand).map g = #[v, u] := by simp [h, h2]

theorem cons_call {P : Program} {md : Region.Mode} {ops : Array Oper} {Q : Exit → Act → World → Prop} {fuel : Nat} {listed : Array Bool} {a : Act} {w : World} {i : Nat} {o : Oper} {rs : List Nat} (ho : ops[i]? = some o)
    (hgd : o.guard = none) (d : Option Tmp) (hd : o.dst = d) (f : FuncId) (fn : Func) (xs : Array Operand) (ts : Array TypeId) (hop : o.op = Op.call { callee := Callee.value (Operand.func f), args := xs, argTypes := ts })
    (hfn : P.funcs[f]? = some fn) (hnm : (fn.name == "runtime.NumGoroutine") = false) (hbd : fn.body.isNone = false) (args : Array Value) (hargs : xs.map a.eval = args) (v : Value) (w' : World) (hc : Calls P f args w fun e w'' => e = .returned v ∧ w'' = w')
    (h : wpAny P md ops Q fuel (listed.setIfInBounds i true) (a.put d v) w')
    (hs : AllReady P md ops Q fuel listed a w rs) : AllReady P md ops Q fuel listed a w (i :: rs) := by
  refine AllReady.cons ho (fun K hK => ?_) hs
  rw [if_pos (by simp [Region.wanted, hgd])]
  unfold Oper.wp
  rw [run_callf f fn xs ts hop hfn hnm hbd, hargs, Oper.upon_enter]
  refine hc.mono fun e w'' hh => ?_
  obtain ⟨rfl, rfl⟩ := hh
  refine hK _ _ ?_
  rw [hd]
  exact h

theorem cons_not {P : Program} {md : Region.Mode} {ops : Array Oper} {Q : Exit → Act → World → Prop} {fuel : Nat} {listed : Array Bool} {a : Act} {w : World} {i : Nat} {o : Oper} {rs : List Nat} (ho : ops[i]? = some o)
    (hgd : o.guard = none) (d : Option Tmp) (hd : o.dst = d) (ty : TypeId) (x : Operand) (hop : o.op = .unOp .not ty x) (b : Bool) (hx : a.eval x = .bool b)
    (h : wpAny P md ops Q fuel (listed.setIfInBounds i true) (a.put d (.bool (!b))) w)
    (hs : AllReady P md ops Q fuel listed a w rs) : AllReady P md ops Q fuel listed a w (i :: rs) := by
  refine AllReady.cons ho (fun K hK => ?_) hs
  rw [if_pos (by simp [Region.wanted, hgd])]
  unfold Oper.wp
  have hr : (execOp a.eval o).run P w = .ok (.value (.bool (!b))) w := by
    unfold execOp
    simp only [hop, hx]
    rfl
  rw [hr, Oper.upon_value]
  refine hK _ _ ?_
  rw [hd]
  exact h

set_option maxHeartbeats 400000 in
theorem lacks_any (p t : Int) (a : Option Addr) (n c : Nat) (w : World) :
    Calls Try.prog 51 #[.agg #[.int .i64 p, .slice a n c], .int .i64 t] w fun e w' => e = .returned (.bool (!inB t 0 ((n : Int) - 1))) ∧ w' = w.alloc (.cells #[.int .i64 p, .slice a n c] 56) := by
  by_cases h0 : t < 0
  · have HB := hide (show (!inB t 0 ((n : Int) - 1)) = true by simp [inB]; omega)
    go_enter Try.func51, Try.ntmps51
    go_wp2_with fail
    go_ret
    exact ⟨ret_bool HB.out.symm, rfl⟩
  by_cases h1 : (n : Int) ≤ t
  · have HB := hide (show (!inB t 0 ((n : Int) - 1)) = true by simp [inB]; omega)
    go_enter Try.func51, Try.ntmps51
    go_wp2_with fail
    go_ret
    exact ⟨ret_bool HB.out.symm, rfl⟩
  · have HB := hide (show (!inB t 0 ((n : Int) - 1)) = false by simp [inB]; omega)
    go_enter Try.func51, Try.ntmps51
    go_wp2_with fail
    go_ret
    exact ⟨ret_bool HB.out.symm, rfl⟩

end Go.Proofs.Ytedbihlpggficab


/- The program's before and overfull. -/
namespace Go.Proofs.Ytedbihlpggficab
open Go.RowKit
set_option maxRecDepth 10000

/-- How before ends. -/
def BfEnd (s0 s1 s2 : Nat) (f : Nat → Int) (w : World) (e : Ending) (w' : World) : Prop :=
  ∃ h, e = .returned (.tuple #[.agg (tokF h), .bool (bkOk s1 s2 f 16)]) ∧ Hid (bkOk s1 s2 f 16 = true → h = bkP s0 s1 f 16) ∧ Below w.heap.size w w'

theorem bfEnd_no {s0 s1 s2 : Nat} {f : Nat → Int} {w w' : World} (h : bkOk s1 s2 f 16 = false) (hb : Below w.heap.size w w') : BfEnd s0 s1 s2 f w (.returned (.tuple #[.agg #[.int .u8 0, .int .u8 0, .int .u8 0, .int .u8 0, .int .u8 0, .int .u8 0, .int .u8 0, .int .u8 0, .int .u8 0, .int .u8 0, .int .u8 0, .int .u8 0, .int .u8 0, .int .u8 0, .int .u8 0, .int .u8 0], .bool false])) w' :=
  ⟨fun _ => 0, by rw [h, zeros_tok], by rw [h]; intro e; simp at e, hb⟩

theorem bfEnd_yes {s0 s1 s2 : Nat} {f : Nat → Int} {w w' : World} (h : bkOk s1 s2 f 16 = true) (hb : Below w.heap.size w w') : BfEnd s0 s1 s2 f w (.returned (.tuple #[.agg (tokF (bkP s0 s1 f 16)), .bool true])) w' :=
  ⟨_, by rw [h], fun _ => rfl, hb⟩

/-- What the loop of before keeps in mind. -/
structure BfInv (w wr : World) (s0 s1 s2 : Nat) (g : Nat → Int) : Prop where
  st : wr.heap[w.heap.size]? = some (.cells #[.int .u16 (s0 : Int), .int .u16 (s1 : Int), .int .u16 (s2 : Int)] 94 (0, 0))
  tk : wr.heap[w.heap.size + 1]? = some (.cells (tokF g) 76 (0, 0))
  rs : wr.heap[w.heap.size + 1 + 1]? = some (.cells #[.int .u8 0, .int .u8 0, .int .u8 0, .int .u8 0, .int .u8 0, .int .u8 0, .int .u8 0, .int .u8 0, .int .u8 0, .int .u8 0, .int .u8 0, .int .u8 0, .int .u8 0, .int .u8 0, .int .u8 0, .int .u8 0] 76 (0, 0))
  bel : Below w.heap.size w wr

theorem BfInv.set {w wr : World} {s0 s1 s2 : Nat} {f : Nat → Int} {k : Nat} {v : Int} (h : BfInv w wr s0 s1 s2 (bkM s0 s1 f k v)) (v' : Int) : BfInv w (wr.setCell ⟨w.heap.size + 1, k, none⟩ (.int .u8 v')) s0 s1 s2 (bkM s0 s1 f k v') :=
  ⟨(Below.heap_setCell _ _ _ _ (show w.heap.size ≠ w.heap.size + 1 by omega)).trans h.st, by rw [heap_setCell_same _ _ _ _ _ _ h.tk, bkM_set], (Below.heap_setCell _ _ _ _ (show w.heap.size + 1 + 1 ≠ w.heap.size + 1 by omega)).trans h.rs, h.bel.setCell (by simp) _⟩

theorem BfInv.start (w : World) (s0 s1 s2 : Nat) (f : Nat → Int) : BfInv w (((w.alloc (.cells #[.int .u16 (s0 : Int), .int .u16 (s1 : Int), .int .u16 (s2 : Int)] 94)).alloc (.cells (tokF f) 76)).alloc (.cells #[.int .u8 0, .int .u8 0, .int .u8 0, .int .u8 0, .int .u8 0, .int .u8 0, .int .u8 0, .int .u8 0, .int .u8 0, .int .u8 0, .int .u8 0, .int .u8 0, .int .u8 0, .int .u8 0, .int .u8 0, .int .u8 0] 76)) s0 s1 s2 f := by
  refine ⟨?_, ?_, ?_, ((below_al w _).alloc (by simp) _).alloc (by simp; omega) _⟩
  · rw [heap_al_old _ _ _ (by simp; omega), heap_al_old _ _ _ (by simp)]; exact heap_alloc_new _ _
  · rw [heap_al_old _ _ _ (by simp)]
    have := heap_alloc_new (w.alloc (.cells #[.int .u16 (s0 : Int), .int .u16 (s1 : Int), .int .u16 (s2 : Int)] 94)) (.cells (tokF f) 76)
    simpa using this
  · have := heap_alloc_new ((w.alloc (.cells #[.int .u16 (s0 : Int), .int .u16 (s1 : Int), .int .u16 (s2 : Int)] 94)).alloc (.cells (tokF f) 76)) (.cells #[.int .u8 0, .int .u8 0, .int .u8 0, .int .u8 0, .int .u8 0, .int .u8 0, .int .u8 0, .int .u8 0, .int .u8 0, .int .u8 0, .int .u8 0, .int .u8 0, .int .u8 0, .int .u8 0, .int .u8 0, .int .u8 0] 76)
    simpa using this

set_option maxHeartbeats 1000000 in
theorem beforeI_any (s0 s1 s2 : Nat) (f : Nat → Int) (w : World) (h0 : s0 < 2 ^ 16) (h1 : s1 < 2 ^ 16) (h2 : s2 < 2 ^ 16) (hf : ∀ i, 0 ≤ f i ∧ f i ≤ 50) :
    Calls Try.prog 52 #[.agg #[.int .u16 (s0 : Int), .int .u16 (s1 : Int), .int .u16 (s2 : Int)], .agg (tokF f)] w fun e w' => BfEnd s0 s1 s2 f w e w' := by
  have HF := hide hf
  have HI := hide (BfInv.start w s0 s1 s2 f)
  clear hf
  go_enter Try.func52, Try.ntmps52
  have hg1 := HI.out.tk
  go_wp2_with ((show wpList _ _ _ (⟨some 8, .load 76 (.tmp 3), _, _, _, _⟩ :: _) _ _); refine wpList_load_row rfl 76 (.tmp 3) rfl _ rfl 76 (tokF f) (0, 0) _ hg1 Try.underlying76 rfl (by rw [tokF_size]; exact Try.size76) ?_)
  clear hg1
  generalize ((w.alloc (.cells #[.int .u16 (s0 : Int), .int .u16 (s1 : Int), .int .u16 (s2 : Int)] 94)).alloc (.cells (tokF f) 76)).alloc (.cells #[.int .u8 0, .int .u8 0, .int .u8 0, .int .u8 0, .int .u8 0, .int .u8 0, .int .u8 0, .int .u8 0, .int .u8 0, .int .u8 0, .int .u8 0, .int .u8 0, .int .u8 0, .int .u8 0, .int .u8 0, .int .u8 0] 76) = W0 at *
  go_loopw [9] (fun i wr => ∃ k : Nat, k ≤ 16 ∧ i = .int .i64 k ∧ Hid (bkOk s1 s2 f k = true) ∧ Hid (BfInv w wr s0 s1 s2 (bkP s0 s1 f k))) (fun i _ => 16 - (intOf i).toNat)
  case atStart => exact ⟨0, Nat.zero_le _, rfl, rfl, by rw [bkP_zero]; exact HI⟩
  case round =>
    obtain ⟨k, hk, rfl, hu, hin⟩ := hrel
    clear HI
    by_cases hlt : k < 16
    rotate_left
    · have hk' : k = 16 := by omega
      subst hk'
      have hg1 := hin.out.tk
      have hg2 := hin.out.rs
      go_wp2_with (first
        | ((show wpList _ _ _ (⟨some 47, .load 76 (.tmp 3), _, _, _, _⟩ :: _) _ _); refine wpList_load_row rfl 76 (.tmp 3) rfl _ rfl 76 (tokF (bkP s0 s1 f 16)) (0, 0) _ hg1 Try.underlying76 rfl (by rw [tokF_size]; exact Try.size76) ?_)
        | ((show wpList _ _ _ (⟨none, .store 76 (.tmp 4) (.tmp 47), _, _, _, _⟩ :: _) _ _); refine wpList_store_row rfl 76 (.tmp 4) _ rfl _ _ rfl rfl 76 _ hg2 (by rw [tokF_size]; exact Try.size76) (by rw [tokF_size]; rfl) (tokF_one _) ?_))
      refine bodyPost_ret (v := .tuple #[.agg (tokF (bkP s0 s1 f 16)), .bool true]) ?_ rfl (bfEnd_yes hu.out (below_setRow hin.out.bel _ (by omega) _))
      exact after_res Try.results52 _ _ (w.heap.size + 1 + 1) _ (.bool true) rfl rfl (tokF_size _) (setRow_same hg2 _)
    have hx := HF.out k
    have hat : ∀ w, (Instr.index 76 (.agg (tokF f)) (.int .i64 k)).run Try.prog w = .ok (.int .u8 (f k)) w := fun w => run_index_t16 f k hlt w
    have HEND := hide (bkM_end s0 s1 f k)
    have HNO := hide (fun h => bkOk_not (s1 := s1) (s2 := s2) (f := f) hlt h)
    have HYE := hide (fun h => bkOk_succ (s1 := s1) (s2 := s2) (f := f) (k := k) hu.out h)
    have HOU : Hid (outF s1 f k = if s1.testBit k && decide (0 < f k) then f k - 1 else f k) := rfl
    have HBK : Hid (bkF s0 s1 f k = outF s1 f k + (if s0.testBit k then 1 else 0)) := rfl
    rw [bkM_start] at hin
    obtain ⟨x, hxq⟩ : ∃ x, Hid (f k = x) := ⟨_, rfl⟩
    rw [hxq.out] at hx hat HOU hin
    have hi1 : ((k : Int)) < 16 := by omega
    have hi0 : (0 : Int) ≤ (k : Int) := by omega
    have hc0 := cell_of_row wr w.heap.size 0 _ _ _ hin.out.st
    have hc1 := cell_of_row wr w.heap.size 1 _ _ _ hin.out.st
    have hc2 := cell_of_row wr w.heap.size 2 _ _ _ hin.out.st
    simp at hc0 hc1 hc2
    have hct := cell_of_row wr (w.heap.size + 1) k _ _ _ hin.out.tk
    rw [bkM_at s0 s1 f k hlt] at hct
    have hfr := frozen_of_row wr (w.heap.size + 1) k _ _ hin.out.tk
    have hlz := row_lt hin.out.rs
    obtain ⟨hx1, hx2⟩ := hx
    clear HF hk hu hxq
    cases hb1 : s1.testBit k
    ·
      cases hb2 : s2.testBit k
      · cases hb0 : s0.testBit k
        ·
          have HV : Hid (outF s1 f k = x) := by show _ = _; rw [HOU.out, hb1]; simp
          have HU := hide (HYE.out (by rw [hb2]; simp))
          have HY : Hid (bkF s0 s1 f k = x) := by show _ = _; rw [HBK.out, HV.out, hb0]; simp
          have HQ := hide (hin.out)
          rw [show bkM s0 s1 f k (x) = bkP s0 s1 f (k + 1) by rw [← HEND.out, HY.out]] at HQ
          clear hin HEND HNO HYE HOU HBK HV HY
          go_wp2_with (go_at_call 75; refine (hasI_any _ k _ (by assumption) hlt).mono ?_; rintro e w' ⟨rfl, rfl⟩)
          go_roundw
          case rel => exact ⟨k + 1, by omega, by go_num, HU, HQ⟩
          case measure => simp [intOf]; omega
        ·
          have HV : Hid (outF s1 f k = x) := by show _ = _; rw [HOU.out, hb1]; simp
          have HU := hide (HYE.out (by rw [hb2]; simp))
          have HY : Hid (bkF s0 s1 f k = x + 1) := by show _ = _; rw [HBK.out, HV.out, hb0]; simp
          have HQ := hide ((hin.out).set (x + 1))
          rw [show bkM s0 s1 f k (x + 1) = bkP s0 s1 f (k + 1) by rw [← HEND.out, HY.out]] at HQ
          clear hin HEND HNO HYE HOU HBK HV HY
          go_wp2_with (go_at_call 75; refine (hasI_any _ k _ (by assumption) hlt).mono ?_; rintro e w' ⟨rfl, rfl⟩)
          go_roundw
          case rel => exact ⟨k + 1, by omega, by go_num, HU, HQ⟩
          case measure => simp [intOf]; omega
      · by_cases hgv : 0 < x
        ·
          have HV : Hid (outF s1 f k = x) := by show _ = _; rw [HOU.out, hb1]; simp
          have HN := hide (HNO.out (by rw [hb2, HV.out]; simpa using hgv))
          have HQ := hide (hin.out)
          have hg2 := HQ.out.rs
          clear hin HEND HNO HYE HOU HBK HV
          go_wp2_with (first | (go_at_call 75; refine (hasI_any _ k _ (by assumption) hlt).mono ?_; rintro e w' ⟨rfl, rfl⟩) | ((show wpList _ _ _ (⟨none, .store 76 (.tmp 4) (.tmp 36), _, _, _, _⟩ :: _) _ _); refine wpList_store_row rfl 76 (.tmp 4) _ rfl _ _ rfl rfl 76 _ hg2 Try.size76 rfl lit_one ?_))
          refine bodyPost_ret (v := .tuple #[.agg #[.int .u8 0, .int .u8 0, .int .u8 0, .int .u8 0, .int .u8 0, .int .u8 0, .int .u8 0, .int .u8 0, .int .u8 0, .int .u8 0, .int .u8 0, .int .u8 0, .int .u8 0, .int .u8 0, .int .u8 0, .int .u8 0], .bool false]) ?_ rfl (bfEnd_no HN.out (below_setRow HQ.out.bel _ (by omega) _))
          exact after_res Try.results52 _ _ (w.heap.size + 1 + 1) _ (.bool false) rfl rfl rfl (setRow_same hg2 _)
        · cases hb0 : s0.testBit k
          ·
            have HV : Hid (outF s1 f k = x) := by show _ = _; rw [HOU.out, hb1]; simp
            have HU := hide (HYE.out (by rw [hb2, HV.out]; simpa using hgv))
            have HY : Hid (bkF s0 s1 f k = x) := by show _ = _; rw [HBK.out, HV.out, hb0]; simp
            have HQ := hide (hin.out)
            rw [show bkM s0 s1 f k (x) = bkP s0 s1 f (k + 1) by rw [← HEND.out, HY.out]] at HQ
            clear hin HEND HNO HYE HOU HBK HV HY
            go_wp2_with (go_at_call 75; refine (hasI_any _ k _ (by assumption) hlt).mono ?_; rintro e w' ⟨rfl, rfl⟩)
            go_roundw
            case rel => exact ⟨k + 1, by omega, by go_num, HU, HQ⟩
            case measure => simp [intOf]; omega
          ·
            have HV : Hid (outF s1 f k = x) := by show _ = _; rw [HOU.out, hb1]; simp
            have HU := hide (HYE.out (by rw [hb2, HV.out]; simpa using hgv))
            have HY : Hid (bkF s0 s1 f k = x + 1) := by show _ = _; rw [HBK.out, HV.out, hb0]; simp
            have HQ := hide ((hin.out).set (x + 1))
            rw [show bkM s0 s1 f k (x + 1) = bkP s0 s1 f (k + 1) by rw [← HEND.out, HY.out]] at HQ
            clear hin HEND HNO HYE HOU HBK HV HY
            go_wp2_with (go_at_call 75; refine (hasI_any _ k _ (by assumption) hlt).mono ?_; rintro e w' ⟨rfl, rfl⟩)
            go_roundw
            case rel => exact ⟨k + 1, by omega, by go_num, HU, HQ⟩
            case measure => simp [intOf]; omega
    · by_cases hgx : 0 < x
      ·
        cases hb2 : s2.testBit k
        · cases hb0 : s0.testBit k
          ·
            have HV : Hid (outF s1 f k = x - 1) := by show _ = _; rw [HOU.out, hb1]; simp [hgx]
            have HU := hide (HYE.out (by rw [hb2]; simp))
            have HY : Hid (bkF s0 s1 f k = x - 1) := by show _ = _; rw [HBK.out, HV.out, hb0]; simp
            have HQ := hide ((hin.out).set (x - 1))
            rw [show bkM s0 s1 f k (x - 1) = bkP s0 s1 f (k + 1) by rw [← HEND.out, HY.out]] at HQ
            clear hin HEND HNO HYE HOU HBK HV HY
            go_wp2_with (go_at_call 75; refine (hasI_any _ k _ (by assumption) hlt).mono ?_; rintro e w' ⟨rfl, rfl⟩)
            go_roundw
            case rel => exact ⟨k + 1, by omega, by go_num, HU, HQ⟩
            case measure => simp [intOf]; omega
          ·
            have HV : Hid (outF s1 f k = x - 1) := by show _ = _; rw [HOU.out, hb1]; simp [hgx]
            have HU := hide (HYE.out (by rw [hb2]; simp))
            have HY : Hid (bkF s0 s1 f k = x) := by show _ = _; rw [HBK.out, HV.out, hb0]; simp
            have hct2 := cell_of_row _ (w.heap.size + 1) k _ _ _ ((hin.out).set (x - 1)).tk
            rw [bkM_at s0 s1 f k hlt] at hct2
            have HQ := hide (((hin.out).set (x - 1)).set (x))
            rw [show bkM s0 s1 f k (x) = bkP s0 s1 f (k + 1) by rw [← HEND.out, HY.out]] at HQ
            clear hin HEND HNO HYE HOU HBK HV HY
            go_wp2_with (go_at_call 75; refine (hasI_any _ k _ (by assumption) hlt).mono ?_; rintro e w' ⟨rfl, rfl⟩)
            go_roundw
            case rel => exact ⟨k + 1, by omega, by go_num, HU, HQ⟩
            case measure => simp [intOf]; omega
        · by_cases hgv : 0 < x - 1
          ·
            have HV : Hid (outF s1 f k = x - 1) := by show _ = _; rw [HOU.out, hb1]; simp [hgx]
            have HN := hide (HNO.out (by rw [hb2, HV.out]; simpa using hgv))
            have HQ := hide ((hin.out).set (x - 1))
            have hg2 := HQ.out.rs
            have hct2 := cell_of_row _ (w.heap.size + 1) k _ _ _ HQ.out.tk
            rw [bkM_at s0 s1 f k hlt] at hct2
            clear hin HEND HNO HYE HOU HBK HV
            go_wp2_with (first | (go_at_call 75; refine (hasI_any _ k _ (by assumption) hlt).mono ?_; rintro e w' ⟨rfl, rfl⟩) | ((show wpList _ _ _ (⟨none, .store 76 (.tmp 4) (.tmp 36), _, _, _, _⟩ :: _) _ _); refine wpList_store_row rfl 76 (.tmp 4) _ rfl _ _ rfl rfl 76 _ hg2 Try.size76 rfl lit_one ?_))
            refine bodyPost_ret (v := .tuple #[.agg #[.int .u8 0, .int .u8 0, .int .u8 0, .int .u8 0, .int .u8 0, .int .u8 0, .int .u8 0, .int .u8 0, .int .u8 0, .int .u8 0, .int .u8 0, .int .u8 0, .int .u8 0, .int .u8 0, .int .u8 0, .int .u8 0], .bool false]) ?_ rfl (bfEnd_no HN.out (below_setRow HQ.out.bel _ (by omega) _))
            exact after_res Try.results52 _ _ (w.heap.size + 1 + 1) _ (.bool false) rfl rfl rfl (setRow_same hg2 _)
          · cases hb0 : s0.testBit k
            ·
              have HV : Hid (outF s1 f k = x - 1) := by show _ = _; rw [HOU.out, hb1]; simp [hgx]
              have HU := hide (HYE.out (by rw [hb2, HV.out]; simpa using hgv))
              have HY : Hid (bkF s0 s1 f k = x - 1) := by show _ = _; rw [HBK.out, HV.out, hb0]; simp
              have hct2 := cell_of_row _ (w.heap.size + 1) k _ _ _ ((hin.out).set (x - 1)).tk
              rw [bkM_at s0 s1 f k hlt] at hct2
              have HQ := hide ((hin.out).set (x - 1))
              rw [show bkM s0 s1 f k (x - 1) = bkP s0 s1 f (k + 1) by rw [← HEND.out, HY.out]] at HQ
              clear hin HEND HNO HYE HOU HBK HV HY
              go_wp2_with (go_at_call 75; refine (hasI_any _ k _ (by assumption) hlt).mono ?_; rintro e w' ⟨rfl, rfl⟩)
              go_roundw
              case rel => exact ⟨k + 1, by omega, by go_num, HU, HQ⟩
              case measure => simp [intOf]; omega
            ·
              have HV : Hid (outF s1 f k = x - 1) := by show _ = _; rw [HOU.out, hb1]; simp [hgx]
              have HU := hide (HYE.out (by rw [hb2, HV.out]; simpa using hgv))
              have HY : Hid (bkF s0 s1 f k = x) := by show _ = _; rw [HBK.out, HV.out, hb0]; simp
              have hct2 := cell_of_row _ (w.heap.size + 1) k _ _ _ ((hin.out).set (x - 1)).tk
              rw [bkM_at s0 s1 f k hlt] at hct2
              have HQ := hide (((hin.out).set (x - 1)).set (x))
              rw [show bkM s0 s1 f k (x) = bkP s0 s1 f (k + 1) by rw [← HEND.out, HY.out]] at HQ
              clear hin HEND HNO HYE HOU HBK HV HY
              go_wp2_with (go_at_call 75; refine (hasI_any _ k _ (by assumption) hlt).mono ?_; rintro e w' ⟨rfl, rfl⟩)
              go_roundw
              case rel => exact ⟨k + 1, by omega, by go_num, HU, HQ⟩
              case measure => simp [intOf]; omega
      ·
        cases hb2 : s2.testBit k
        · cases hb0 : s0.testBit k
          ·
            have HV : Hid (outF s1 f k = x) := by show _ = _; rw [HOU.out, hb1]; simp [hgx]
            have HU := hide (HYE.out (by rw [hb2]; simp))
            have HY : Hid (bkF s0 s1 f k = x) := by show _ = _; rw [HBK.out, HV.out, hb0]; simp
            have HQ := hide (hin.out)
            rw [show bkM s0 s1 f k (x) = bkP s0 s1 f (k + 1) by rw [← HEND.out, HY.out]] at HQ
            clear hin HEND HNO HYE HOU HBK HV HY
            go_wp2_with (go_at_call 75; refine (hasI_any _ k _ (by assumption) hlt).mono ?_; rintro e w' ⟨rfl, rfl⟩)
            go_roundw
            case rel => exact ⟨k + 1, by omega, by go_num, HU, HQ⟩
            case measure => simp [intOf]; omega
          ·
            have HV : Hid (outF s1 f k = x) := by show _ = _; rw [HOU.out, hb1]; simp [hgx]
            have HU := hide (HYE.out (by rw [hb2]; simp))
            have HY : Hid (bkF s0 s1 f k = x + 1) := by show _ = _; rw [HBK.out, HV.out, hb0]; simp
            have HQ := hide ((hin.out).set (x + 1))
            rw [show bkM s0 s1 f k (x + 1) = bkP s0 s1 f (k + 1) by rw [← HEND.out, HY.out]] at HQ
            clear hin HEND HNO HYE HOU HBK HV HY
            go_wp2_with (go_at_call 75; refine (hasI_any _ k _ (by assumption) hlt).mono ?_; rintro e w' ⟨rfl, rfl⟩)
            go_roundw
            case rel => exact ⟨k + 1, by omega, by go_num, HU, HQ⟩
            case measure => simp [intOf]; omega
        · by_cases hgv : 0 < x
          ·
            exact absurd hgv hgx
          · cases hb0 : s0.testBit k
            ·
              have HV : Hid (outF s1 f k = x) := by show _ = _; rw [HOU.out, hb1]; simp [hgx]
              have HU := hide (HYE.out (by rw [hb2, HV.out]; simpa using hgv))
              have HY : Hid (bkF s0 s1 f k = x) := by show _ = _; rw [HBK.out, HV.out, hb0]; simp
              have HQ := hide (hin.out)
              rw [show bkM s0 s1 f k (x) = bkP s0 s1 f (k + 1) by rw [← HEND.out, HY.out]] at HQ
              clear hin HEND HNO HYE HOU HBK HV HY
              go_wp2_with (go_at_call 75; refine (hasI_any _ k _ (by assumption) hlt).mono ?_; rintro e w' ⟨rfl, rfl⟩)
              go_roundw
              case rel => exact ⟨k + 1, by omega, by go_num, HU, HQ⟩
              case measure => simp [intOf]; omega
            ·
              have HV : Hid (outF s1 f k = x) := by show _ = _; rw [HOU.out, hb1]; simp [hgx]
              have HU := hide (HYE.out (by rw [hb2, HV.out]; simpa using hgv))
              have HY : Hid (bkF s0 s1 f k = x + 1) := by show _ = _; rw [HBK.out, HV.out, hb0]; simp
              have HQ := hide ((hin.out).set (x + 1))
              rw [show bkM s0 s1 f k (x + 1) = bkP s0 s1 f (k + 1) by rw [← HEND.out, HY.out]] at HQ
              clear hin HEND HNO HYE HOU HBK HV HY
              go_wp2_with (go_at_call 75; refine (hasI_any _ k _ (by assumption) hlt).mono ?_; rintro e w' ⟨rfl, rfl⟩)
              go_roundw
              case rel => exact ⟨k + 1, by omega, by go_num, HU, HQ⟩
              case measure => simp [intOf]; omega

/-- Whether some number is beyond the most that a place may have. -/
theorem overI_any (f : Nat → Int) (w : World) (hf : ∀ i, 0 ≤ f i ∧ f i ≤ 51) :
    Calls Try.prog 53 #[.agg (tokF f)] w fun e w' => e = .returned (.bool (overB f 16)) ∧ w' = w.alloc (.cells (tokF f) 76) := by
  have hg0 := heap_alloc_new w (.cells (tokF f) 76)
  go_enter Try.func53, Try.ntmps53
  go_wp2_with (refine wpList_load_row rfl 76 (.tmp 1) rfl _ rfl 76 (tokF f) (0, 0) _ hg0 Try.underlying76 rfl (by rw [tokF_size]; exact Try.size76) ?_)
  clear hg0
  obtain ⟨v, hv⟩ : ∃ v, Hid (w.alloc (.cells (tokF f) 76) = v) := ⟨_, rfl⟩
  rw [hv.out]
  go_loop [6] (fun i => ∃ k : Nat, k ≤ 16 ∧ i = .int .i64 k ∧ Hid (overB f k = false)) (fun i => 16 - (intOf i).toNat)
  case atStart => exact ⟨0, Nat.zero_le _, rfl, rfl⟩
  case round =>
    obtain ⟨k, hk, rfl, hu⟩ := hrel
    by_cases hlt : k < 16
    rotate_left
    · have hk' : k = 16 := by omega
      subst hk'
      have HE := hide hu.out
      go_wp2_with fail
      go_ret
      exact ⟨ret_bool HE.out.symm, hv.out.symm⟩
    have hat : ∀ w, (Instr.index 76 (.agg (tokF f)) (.int .i64 k)).run Try.prog w = .ok (.int .u8 (f k)) w := fun w => run_index_t16 f k hlt w
    have hi1 : ((k : Int)) < 16 := by omega
    have hi0 : (0 : Int) ≤ (k : Int) := by omega
    have hb := hf k
    by_cases hp : 50 < f k
    · have HY := hide (overB_yes hlt hp)
      have hx : f k = 51 := by omega
      rw [hx] at hat
      clear hp hx hb hf hu
      go_wp2_with fail
      go_ret
      exact ⟨ret_bool HY.out.symm, hv.out.symm⟩
    · have HU := hide (overB_succ hu.out hp)
      obtain ⟨x, hx⟩ : ∃ x, Hid (f k = x) := ⟨_, rfl⟩
      rw [hx.out] at hat hb hp
      obtain ⟨hb1, hb2⟩ := hb
      clear hf hu
      go_wp2_with fail
      go_round
      case rel => exact ⟨k + 1, by omega, by go_num, HU⟩
      case measure => simp [intOf]; omega
end Go.Proofs.Ytedbihlpggficab


/- Steps of a region that draws its order, by hand: a call, an operation that is not wanted. -/
namespace Go.Proofs.Ytedbihlpggficab
open Go.RowKit

theorem run_callw {P : Program} {o : Oper} {a : Act} {w : World} (f : FuncId) (fn : Func) (xs : Array Operand) (ts : Array TypeId) (hop : o.op = Op.call { callee := Callee.value (Operand.func f), args := xs, argTypes := ts })
    (hfn : P.funcs[f]? = some fn) (hnm : (fn.name == "runtime.NumGoroutine") = false) (hbd : fn.body.isNone = false) : (execOp a.eval o).run P w = .ok (.enter f (xs.map a.eval)) w := by
  have hnm' : ¬ fn.name = "runtime.NumGoroutine" := by simpa using hnm
  have hbd' : ¬ fn.body = none := by intro e; rw [e] at hbd; simp at hbd
  unfold execOp
  simp only [hop]
  simp [resolve, invoke, go_sem, Act.eval, callFunc, hfn, hnm', hbd']

/-- A call that is wanted as one step of a region that draws its order. -/
theorem step_callW {P : Program} {ops : Array Oper} {o : Oper} {a : Act} {w : World} {K : Act → World → Prop} {Q : Exit → Act → World → Prop} {E : Prop}
    (hw : Region.wanted o (yielded ops a.tmps) = true) (f : FuncId) (fn : Func) (xs : Array Operand) (ts : Array TypeId) (hop : o.op = Op.call { callee := Callee.value (Operand.func f), args := xs, argTypes := ts })
    (hfn : P.funcs[f]? = some fn) (hnm : (fn.name == "runtime.NumGoroutine") = false) (hbd : fn.body.isNone = false) (args : Array Value) (hargs : xs.map a.eval = args) (R : Ending → World → Prop) (hc : Calls P f args w R)
    (h : ∀ e w', R e w' → ∃ v, e = .returned v ∧ K (a.put o.dst v) w') :
    if Region.wanted o (yielded ops a.tmps) = true then Oper.wp P o a w K Q else E := by
  rw [if_pos hw]
  unfold Oper.wp
  rw [run_callw f fn xs ts hop hfn hnm hbd, hargs, Oper.upon_enter]
  refine hc.mono fun e w'' hh => ?_
  obtain ⟨v, rfl, hk⟩ := h e w'' hh
  exact hk

theorem mapw1 (g : Operand → Value) (x : Operand) (v : Value) (h : g x = v) : (#[x] : Array Operand).map g = #[v] := by simp [h]
theorem mapw2 (g : Operand → Value) (x y : Operand) (v u : Value) (h : g x = v) (h2 : g y = u) : (#[x, y] : Array Operand).map g = #[v, u] := by simp [h, h2]

section
variable {P : Program} {ops : Array Oper} {Q : Exit → Act → World → Prop} {md : Region.Mode} {S : World → Prop}

/-- What is not wanted is taken first. -/
theorem take_no {i : Nat} {oi : Oper} {fuel : Nat} {listed : Array Bool} {a : Act} {w : World} (d : Option Tmp) (hi : ops[i]? = some oi) (hd : oi.dst = d)
    (hs : Region.noSelect ops = true) (hf : Region.free md ops listed i = true) (hr : (Region.ready md ops listed).contains i = true)
    (hQ : ∀ c a w, Q (.panic c) (a.put d undef) w → Q (.panic c) a w) (hw : Region.wanted oi (yielded ops a.tmps) = false) (hS : S w)
    (h : wpAnyH P md ops Q S fuel (listed.setIfInBounds i true) (a.put d undef) w) : wpAnyH P md ops Q S (fuel + 1) listed a w := by
  subst hd
  exact wpAnyH_take hi hs hf hr hQ (.inr ⟨hw, rfl⟩) hS h

/-- What is wanted and yields its value wherever S holds is taken first. -/
theorem take_yes {i : Nat} {oi : Oper} {fuel : Nat} {listed : Array Bool} {a : Act} {w : World} (d : Option Tmp) (v : Value) (hi : ops[i]? = some oi) (hd : oi.dst = d)
    (hs : Region.noSelect ops = true) (hf : Region.free md ops listed i = true) (hr : (Region.ready md ops listed).contains i = true)
    (hQ : ∀ c a w, Q (.panic c) (a.put d v) w → Q (.panic c) a w) (hw : Region.wanted oi (yielded ops a.tmps) = true) (hy : ∀ w, S w → (execOp a.eval oi).run P w = .ok (.value v) w) (hS : S w)
    (h : wpAnyH P md ops Q S fuel (listed.setIfInBounds i true) (a.put d v) w) : wpAnyH P md ops Q S (fuel + 1) listed a w := by
  subst hd
  exact wpAnyH_take hi hs hf hr hQ (.inl ⟨hw, hy⟩) hS h

/-- A call that must come up next. -/
theorem call_next {i : Nat} {oi : Oper} {fuel : Nat} {listed : Array Bool} {a : Act} {w : World} (d : Option Tmp) (hi : ops[i]? = some oi) (hd : oi.dst = d) (hr : Region.ready md ops listed = [i])
    (hw : Region.wanted oi (yielded ops a.tmps) = true) (f : FuncId) (fn : Func) (xs : Array Operand) (ts : Array TypeId) (hop : oi.op = Op.call { callee := Callee.value (Operand.func f), args := xs, argTypes := ts })
    (hfn : P.funcs[f]? = some fn) (hnm : (fn.name == "runtime.NumGoroutine") = false) (hbd : fn.body.isNone = false) (args : Array Value) (hargs : xs.map a.eval = args) (R : Ending → World → Prop) (hc : Calls P f args w R)
    (h : ∀ e w', R e w' → ∃ v, e = .returned v ∧ S w' ∧ (S w' → wpAnyH P md ops Q S fuel (listed.setIfInBounds i true) (a.put d v) w')) : wpAnyH P md ops Q S (fuel + 1) listed a w := by
  subst hd
  refine wpAnyH_ready hr (by simp) (AllReadyH.cons hi (fun K hK => ?_) AllReadyH.nil)
  refine step_callW hw f fn xs ts hop hfn hnm hbd args hargs R hc ?_
  intro e w' hR
  obtain ⟨v, e1, h1, h2⟩ := h e w' hR
  exact ⟨v, e1, hK.out _ _ h1 h2⟩

/-- A store of a whole row that must come up next. -/
theorem store_next {i : Nat} {oi : Oper} {fuel : Nat} {listed : Array Bool} {a : Act} {w : World} (hi : ops[i]? = some oi) (hd : oi.dst = none) (hr : Region.ready md ops listed = [i])
    (hw : Region.wanted oi (yielded ops a.tmps) = true) (ty : TypeId) (x y : Operand) (hop : oi.op = .store ty x y)
    (g : Nat) (cells : Array Value) (hx : a.eval x = .pointer (some ⟨g, 0, none⟩)) (hy : a.eval y = .agg cells)
    (t : TypeId) (old : Array Value) (hg : w.heap[g]? = some (.cells old t (0, 0))) (hz : (P.info? ty).map (·.size) = some cells.size)
    (hold : old.size = cells.size) (h1 : cells.all (·.oneCell') = true)
    (hS : S (w.setRow g cells)) (h : S (w.setRow g cells) → wpAnyH P md ops Q S fuel (listed.setIfInBounds i true) a (w.setRow g cells)) : wpAnyH P md ops Q S (fuel + 1) listed a w := by
  refine wpAnyH_ready hr (by simp) (AllReadyH.cons hi (fun K hK => ?_) AllReadyH.nil)
  rw [if_pos hw]
  refine wp_store_row ty x y hop g cells hx hy t old hg hz hold h1 (hK.out _ _ ?_ ?_)
  · exact hS
  · rw [hd]; exact h

/-- A store of some cells in a row that must come up next. -/
theorem store_mid_next {i : Nat} {oi : Oper} {fuel : Nat} {listed : Array Bool} {a : Act} {w : World} (hi : ops[i]? = some oi) (hd : oi.dst = none) (hr : Region.ready md ops listed = [i])
    (hw : Region.wanted oi (yielded ops a.tmps) = true) (ty : TypeId) (x y : Operand) (hop : oi.op = .store ty x y)
    (b o : Nat) (cells : Array Value) (hx : a.eval x = .pointer (some ⟨b, o, none⟩)) (hy : a.eval y = .agg cells) (ht : w.there b o cells.size) (hz : (P.info? ty).map (·.size) = some cells.size)
    (h1 : cells.all (·.oneCell') = true)
    (hS : S (w.setCells b o cells.toList)) (h : S (w.setCells b o cells.toList) → wpAnyH P md ops Q S fuel (listed.setIfInBounds i true) a (w.setCells b o cells.toList)) : wpAnyH P md ops Q S (fuel + 1) listed a w := by
  refine wpAnyH_ready hr (by simp) (AllReadyH.cons hi (fun K hK => ?_) AllReadyH.nil)
  rw [if_pos hw]
  refine wp_store_mid ty x y hop b o cells hx hy ht hz h1 (hK.out _ _ ?_ ?_)
  · exact hS
  · rw [hd]; exact h
end

theorem mapw4 (g : Operand → Value) (x y z u : Operand) (a b c d : Value) (h : g x = a) (h2 : g y = b) (h3 : g z = c) (h4 : g u = d) : (#[x, y, z, u] : Array Operand).map g = #[a, b, c, d] := by simp [h, h2, h3, h4]

theorem setRow_sameW {w : World} {b : Nat} {C : Array Value} {t : TypeId} (hb : w.heap[b]? = some (.cells C t (0, 0))) (D : Array Value) : (w.setRow b D).heap[b]? = some (.cells D t (0, 0)) := by
  simp only [World.setRow, Array.getElem?_modify]
  rw [if_pos trivial, hb]
  rfl

theorem setRow_otherW (w : World) {b k : Nat} (h : k ≠ b) (D : Array Value) : (w.setRow b D).heap[k]? = w.heap[k]? := by
  simp only [World.setRow, Array.getElem?_modify]
  rw [if_neg (fun e => h e.symm)]
end Go.Proofs.Ytedbihlpggficab


/- More steps of a region that draws its order, by hand. -/
namespace Go.Proofs.Ytedbihlpggficab
open Go.RowKit

/-- An operation that yields a value as one step of a region that draws its order. -/
theorem step_valW {P : Program} {ops : Array Oper} {o : Oper} {a : Act} {w w' : World} {K : Act → World → Prop} {Q : Exit → Act → World → Prop} {E : Prop}
    (hw : Region.wanted o (yielded ops a.tmps) = true) (d : Option Tmp) (hd : o.dst = d) (v : Value) (hr : (execOp a.eval o).run P w = .ok (.value v) w') (h : K (a.put d v) w') :
    if Region.wanted o (yielded ops a.tmps) = true then Oper.wp P o a w K Q else E := by
  subst hd
  rw [if_pos hw]
  unfold Oper.wp
  rw [hr]
  exact h

/-- A call that is wanted, its place named. -/
theorem step_callWd {P : Program} {ops : Array Oper} {o : Oper} {a : Act} {w : World} {K : Act → World → Prop} {Q : Exit → Act → World → Prop} {E : Prop} (d : Option Tmp) (hd : o.dst = d)
    (hw : Region.wanted o (yielded ops a.tmps) = true) (f : FuncId) (fn : Func) (xs : Array Operand) (ts : Array TypeId) (hop : o.op = Op.call { callee := Callee.value (Operand.func f), args := xs, argTypes := ts })
    (hfn : P.funcs[f]? = some fn) (hnm : (fn.name == "runtime.NumGoroutine") = false) (hbd : fn.body.isNone = false) (args : Array Value) (hargs : xs.map a.eval = args) (R : Ending → World → Prop) (hc : Calls P f args w R)
    (h : ∀ e w', R e w' → ∃ v, e = .returned v ∧ K (a.put d v) w') :
    if Region.wanted o (yielded ops a.tmps) = true then Oper.wp P o a w K Q else E := by
  subst hd
  exact step_callW hw f fn xs ts hop hfn hnm hbd args hargs R hc h

/-- An append, its place named. -/
theorem step_appWd {P : Program} {ops : Array Oper} {o : Oper} {a : Act} {w : World} {K : Act → World → Prop} {Q : Exit → Act → World → Prop} {E : Prop} (d : Option Tmp) (hd : o.dst = d) (hgd : o.guard = none) (s x : Operand) (t : TypeId)
    (ho : o.op = .call { callee := .builtin .append, args := #[s, x], argTypes := #[t, t] })
    (base : Nat) (e : TypeId) (i : TypeInfo) (z : Value) (size bytes : Nat) (ht : P.underlying t = some (.slice e)) (hi : P.info? e = some i) (hz : i.zero = some z)
    (hsize : i.size = size) (hby : i.bytes = bytes) (hzs : z.cells.size = size) (hsz : 0 < size)
    (v : Value) (n : Nat) (xs : List Value) (hs : a.eval s = v) (hown : w.ownsRow base e size v n xs)
    (ad : Addr) (m c : Nat) (news : List Value) (hx : a.eval x = .slice (some ad) m c) (hl : news.length = m * size) (hnews : ∀ j u, news[j]? = some u → w.cell? (ad.add j) = some u) (h1 : ∀ u ∈ news, u.oneCell' = true)
    (hm : 0 < m) (h63 : n + m ≤ maxLen) (hbytes : (n + m) * bytes ≤ 140737488355328) (hbase : base ≤ w.heap.size) (H : Nat) (hH : w.heap.size = H)
    (h : ∀ g cap w', w'.ownsRow base e size (.slice (some ⟨g, 0, none⟩) (n + m) cap) (n + m) (xs ++ news) → w.grownBy w' v.ownBlock → (v.ownBlock = some g ∨ g = H) → g < w'.heap.size → K (a.put d (.slice (some ⟨g, 0, none⟩) (n + m) cap)) w') :
    if Region.wanted o (yielded ops a.tmps) = true then Oper.wp P o a w K Q else E := by
  subst hd
  exact step_append_lies w hgd s x t ho base e i z size bytes ht hi hz hsize hby hzs hsz v n xs hs hown ad m c news hx hl hnews h1 hm h63 hbytes hbase H hH h

section
variable {P : Program} {ops : Array Oper} {Q : Exit → Act → World → Prop} {md : Region.Mode} {S : World → Prop}

/-- A store of one cell that must come up next. -/
theorem store_one_next {i : Nat} {oi : Oper} {fuel : Nat} {listed : Array Bool} {a : Act} {w : World} (hi : ops[i]? = some oi) (hd : oi.dst = none) (hr : Region.ready md ops listed = [i])
    (hw : Region.wanted oi (yielded ops a.tmps) = true) (ty : TypeId) (x y : Operand) (hop : oi.op = .store ty x y)
    (b o : Nat) (p : Option Addr) (l c : Nat) (hx : a.eval x = .pointer (some ⟨b, o, none⟩)) (hy : a.eval y = .slice p l c) (C : Array Value) (T : TypeId) (hb : w.heap[b]? = some (.cells C T (0, 0))) (ho : o < C.size) (hz : (P.info? ty).map (·.size) = some 1)
    (hS : S (w.setCell ⟨b, o, none⟩ (.slice p l c))) (h : S (w.setCell ⟨b, o, none⟩ (.slice p l c)) → wpAnyH P md ops Q S fuel (listed.setIfInBounds i true) a (w.setCell ⟨b, o, none⟩ (.slice p l c))) : wpAnyH P md ops Q S (fuel + 1) listed a w := by
  refine wpAnyH_ready hr (by simp) (AllReadyH.cons hi (fun K hK => ?_) AllReadyH.nil)
  rw [if_pos hw]
  have hc : w.cell? ⟨b, o, none⟩ = some (C[o]'ho) := by rw [cell_of_row w b o C T _ hb, Array.getElem?_eq_getElem ho]
  have hf : w.frozen? ⟨b, o, none⟩ = false := frozen_of_row w b o C _ hb
  have hrun : (execOp a.eval oi).run P w = .ok .skip (w.setCell ⟨b, o, none⟩ (.slice p l c)) := by
    unfold execOp
    simp only [hop, hx, hy]
    obtain ⟨inf, hinf, hsz⟩ := Option.map_eq_some_iff.1 hz
    simp [go_sem, sizeOf, typeInfo, hinf, hsz, hc, hf]
  unfold Oper.wp
  rw [hrun]
  show K (a.put oi.dst undef) _
  rw [hd]
  exact hK.out _ _ hS h

end
end Go.Proofs.Ytedbihlpggficab
