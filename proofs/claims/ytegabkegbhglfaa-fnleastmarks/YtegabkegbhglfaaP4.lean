/- Contracts that the proof stands on, one behind the other. -/
import Derived.Test.YtegabkegbhglfaaP3
import Derived.Deep.MidRow
/- Slices of lists: what szIntSS, toIntSS, eqIntSS, markIntSS and heldIntSS answer, make and write. -/
namespace Go.Proofs.Ytegabkegbhglfaa
open Go.RowKit
set_option maxRecDepth 10000

theorem Lists.at {w : World} {a : Option Addr} {n : Nat} {L : List (List Int)} (h : Lists w a n L) {k : Nat} (hk : k < n) :
    ∃ b off a' n' c', a = some ⟨b, off, none⟩ ∧ b < w.heap.size ∧ w.cell? ⟨b, off + k, none⟩ = some (.slice a' n' c') ∧ n' ≤ maxLen ∧ Row w a' n' (L.getD k []) := by
  rcases h.2 with h0 | ⟨b, off, e, hl, hc⟩
  · omega
  · obtain ⟨a', n', c', h1, h2, h3⟩ := hc k hk
    exact ⟨b, off, a', n', c', e, hl, h1, h2, h3⟩


theorem Try.info30 : (Try.prog.info? 30).map (fun i => (i.zero, i.size, i.bytes)) = some (some (.slice none 0 0), 1, 24) := by kernel_rfl

theorem PartL.step1 {v w : World} {B n k b0 : Nat} {T : TypeId} {L : List (List Int)} {x0 : List Int} (h : PartL v B n k T L) (hk : k < n) (hb : Below v.heap.size v w)
    (h0 : v.heap.size ≤ b0) (g0 : w.heap[b0]? = some (.cells (cellsOf x0) 3 (0, 0))) (e0 : L.getD k [] = x0) :
    PartL (w.setCell ⟨B, k, none⟩ (.slice (some ⟨b0, 0, none⟩) x0.length x0.length)) B n (k + 1) T L := by
  obtain ⟨C, f, h1, h2, h3, h4⟩ := h
  have hB := (Array.getElem?_eq_some_iff.mp h1).1
  have hold : ∀ j, j < k → f j < v.heap.size := fun j hj => (Array.getElem?_eq_some_iff.mp (h3 j hj).2.2).1
  refine ⟨_, fun j => if j < k then f j else b0, heap_setCell_same _ _ _ _ _ _ ((hb.block B hB).trans h1), by simp [h2], fun j hj => ?_, fun i j hij hj => ?_⟩
  · by_cases hj3 : j < k
    · obtain ⟨q1, q2, q3⟩ := h3 j hj3
      simp only [if_pos hj3]
      refine ⟨?_, q2, ?_⟩
      · rw [Array.getElem?_setIfInBounds_ne (by omega)]; exact q1
      · rw [Below.heap_setCell _ _ _ _ (show f j ≠ B by omega)]; exact (hb.block _ (hold j hj3)).trans q3
    · simp only [if_neg hj3]
      obtain rfl : j = k := by omega
      rw [e0]
      refine ⟨?_, by omega, ?_⟩
      · rw [Array.getElem?_setIfInBounds, if_pos rfl, if_pos (by omega)]
      · rw [Below.heap_setCell _ _ _ _ (show b0 ≠ B by omega)]; exact g0
  · have := h4 i j hij
    by_cases hi3 : i < k
    · have := hold i hi3
      simp only [if_pos hi3]
      split
      all_goals omega
    · omega

/-- The cell k of the row is there, and can be written. -/
theorem PartL.spot {w : World} {B n k : Nat} {T : TypeId} {L : List (List Int)} (h : PartL w B n k T L) {j : Nat} (hj : j < n) : ∃ v, w.cell? ⟨B, j, none⟩ = some v ∧ w.frozen? ⟨B, j, none⟩ = false := by
  obtain ⟨C, f, h1, h2, h3, h4⟩ := h
  exact ⟨_, by rw [cell_of_row w B j C _ _ h1]; exact Array.getElem?_eq_getElem (by omega), frozen_of_row w B j C _ h1⟩

theorem PartL.lists1 {w : World} {B n : Nat} {T : TypeId} {L : List (List Int)} (h : PartL w B n n T L) (hl : L.length = n) (hs : sizeN n L ≤ 1048576) : Lists w (some ⟨B, 0, none⟩) n L := by
  obtain ⟨C, f, h1, h2, h3, h4⟩ := h
  refine ⟨hl, .inr ⟨B, 0, rfl, (Array.getElem?_eq_some_iff.mp h1).1, fun j hj => ?_⟩⟩
  obtain ⟨e1, e2, e3⟩ := h3 j hj
  refine ⟨_, _, _, by rw [cell_of_row w B (0 + j) C T _ h1, Nat.zero_add]; exact e1, ?_, Own.row (B := 0) ⟨rfl, _, rfl, Nat.zero_le _, e3⟩⟩
  have := len_le L j
  unfold sizeN at hs; unfold maxLen; omega

/-- How a call that makes one list ends. -/
def NewRow (xs : List Int) (w : World) (e : Ending) (w' : World) : Prop :=
  ∃ b, e = .returned (.slice (some ⟨b, 0, none⟩) xs.length xs.length) ∧ w.heap.size ≤ b ∧ w'.heap[b]? = some (.cells (cellsOf xs) 3 (0, 0)) ∧ Below w.heap.size w w'

/-- Lists that were made: none, or behind a block that leads to them. -/
def NetF (w : World) (a : Option Addr) (B hi n : Nat) (M : Nat → List Int) : Prop := n = 0 ∨ (a = some ⟨B, 0, none⟩ ∧ PartF w B hi n 30 M)

theorem NetF.seq1 {w : World} {a : Option Addr} {B hi n k0 : Nat} {M : Nat → List Int} (h : NetF w a B hi n (markedF k0 M n)) {k : Nat} (hk : k < n) :
    ∃ b l, a = some ⟨B, 0, none⟩ ∧ w.cell? ⟨B, k, none⟩ = some (.slice (some ⟨b, 0, none⟩) l l) ∧ Hid ((M k).length = l) ∧ Hid (Row w (some ⟨b, 0, none⟩) l (seqL (k0 + cntF M k) l)) := by
  rcases h with h0 | ⟨rfl, hp⟩
  · omega
  · obtain ⟨b, h1, h2, h3, h4, _⟩ := hp.one hk
    have hm : markedF k0 M n k = seqL (k0 + cntF M k) (M k).length := by unfold markedF; rw [if_pos hk]
    rw [hm, seqL_len] at h1 h4
    exact ⟨b, _, rfl, h1, rfl, h4.row⟩

end Go.Proofs.Ytegabkegbhglfaa


/- The program's LeastMarks: the least ones of good marks, in order, each in a block of its own. -/
namespace Go.Proofs.Ytegabkegbhglfaa
open Go.RowKit Go.Sort Go.Shelf
set_option maxRecDepth 10000

/-- The first k of m marks are packed. -/
structure AllT (w : World) (B m k n : Nat) (L : List (List Int)) : Prop where
  lt : B < w.heap.size
  th : w.there B 0 (m * 16)
  rg : ∀ j, j < k → w.rangeAt B (j * 16) (encT n (L.getD j []))

theorem there_below {w w' : World} {b o n : Nat} (h : w.there b o n) {D : Nat} (hB : b < D) (hb : Below D w w') : w'.there b o n := fun j hj => by
  obtain ⟨h1, h2⟩ := h j hj
  exact ⟨by rw [hb.cell hB]; exact h1, by rw [hb.frozen hB]; exact h2⟩

theorem AllT.grow {w w' : World} {B m k n : Nat} {L : List (List Int)} (h : AllT w B m k n L) (hb : Below w.heap.size w w') : AllT w' B m k n L :=
  ⟨Nat.lt_of_lt_of_le h.lt hb.size, there_below h.th h.lt hb, fun j hj => rangeAt_below (h.rg j hj) h.lt hb⟩

theorem there_part {w : World} {b m o n : Nat} (h : w.there b 0 m) (ho : o + n ≤ m) : w.there b o n := fun j hj => by
  have := h (o + j) (by omega)
  rwa [Nat.zero_add] at this

theorem heap_size_setCells (b : Nat) : ∀ (vs : List Value) (o : Nat) (w : World), (w.setCells b o vs).heap.size = w.heap.size
  | [], _, _ => rfl
  | v :: r, o, w => by rw [World.setCells, heap_size_setCells b r]; simp [World.setCell]

theorem AllT.step {w : World} {B m k n : Nat} {L : List (List Int)} (h : AllT w B m k n L) (hk : k < m) {t : List Int} (ht : L.getD k [] = t) : AllT (w.setCells B (k * 16) (packOf t n).toList) B m (k + 1) n L := by
  have hl : (packOf t n).toList.length = 16 := by simp [packOf_size]
  refine ⟨by rw [heap_size_setCells]; exact h.lt, World.there_setCells h.th _ _ _, fun j hj => ?_⟩
  by_cases e : j = k
  · subst e
    rw [ht]
    exact World.rangeAt_setCells_same _ _ _ _ (there_part h.th (by rw [hl]; omega))
  · exact World.rangeAt_setCells_apart (h.rg j (by omega)) _ _ _ (.inr (.inl (by rw [encT_len]; omega)))

theorem AllT.holds {w : World} {B n : Nat} {L : List (List Int)} (h : AllT w B L.length L.length n L) : HoldsK (encT n) 16 w B 0 L.toArray := by
  intro j hj
  have hj' : j < L.length * 16 := by simpa using hj
  refine ⟨?_, (h.th j (by omega)).2⟩
  rw [get_flatK _ _ _ _ (by simpa using hj')]
  have hq : j / 16 < L.length := by omega
  have hr : j % 16 < 16 := by omega
  have := h.rg (j / 16) hq (j % 16) _ (List.getElem?_eq_getElem (by rw [encT_len]; exact hr))
  rw [show j / 16 * 16 + j % 16 = j by omega] at this
  rw [Nat.zero_add, this]
  simp [hq, encT_len, hr]

theorem listF_of {us : List Int} {l : Nat} (h : us.length = l) : listF (fOf us l) l = us := by
  apply List.ext_getElem (by rw [listF_len]; omega)
  intro i h1 h2
  simp only [listF, List.getElem_map, List.getElem_range, fOf]
  rw [if_pos (by rw [listF_len] at h1; exact h1)]
  simp [h2]

theorem good_len {p : Int} {xs : List Int} (h : goodB p xs = true) : xs.length = p.toNat := by
  unfold goodB at h
  simp only [Bool.and_eq_true, decide_eq_true_eq] at h
  omega

theorem good_small {p : Int} {xs : List Int} (h : goodB p xs = true) (n : Nat) : ∀ i, 0 ≤ fOf xs n i ∧ fOf xs n i ≤ 255 := by
  unfold goodB at h
  simp only [Bool.and_eq_true, decide_eq_true_eq] at h
  have h2 := h.2
  unfold allB at h2
  rw [List.all_eq_true] at h2
  intro i
  unfold fOf
  split
  · rw [List.getD_eq_getElem?_getD]
    by_cases hi : i < xs.length
    · have := h2 _ (List.getElem_mem hi)
      simp [inB] at this
      simp [hi]
      omega
    · simp [List.getElem?_eq_none (show xs.length ≤ i by omega)]
  · omega

/-- The least ones of some marks, in order. -/
noncomputable def leastL (n : Nat) (L : List (List Int)) : List (List Int) := open Classical in if h : ∃ R, MinOf n L R then h.choose else []

theorem MinOf.least {n : Nat} {L R : List (List Int)} (h : MinOf n L R) : R = leastL n L := by
  unfold leastL
  rw [dif_pos ⟨R, h⟩]
  exact h.unique (Exists.choose_spec (p := fun R => MinOf n L R) ⟨R, h⟩)

noncomputable def leastR (p : Int) (L : List (List Int)) : List (List Int) := if okL p L = true then leastL p.toNat L else []

theorem okL_no1 {p : Int} {L : List (List Int)} (h : inB p 1 16 = false) : okL p L = false := by simp [okL, h]
theorem okL_no2 {p : Int} {L : List (List Int)} (h : ¬ L.length ≤ 400) : okL p L = false := by simp [okL, h]
theorem okL_no3 {p : Int} {L : List (List Int)} {k : Nat} (hk : k < L.length) (h : goodB p (L.getD k []) = false) : okL p L = false := by
  unfold okL
  rw [Bool.and_eq_false_iff]
  right
  rw [List.all_eq_false]
  exact ⟨_, getD_mem hk, by rw [h]; decide⟩
theorem okL_yes {p : Int} {L : List (List Int)} (h1 : inB p 1 16 = true) (h2 : L.length ≤ 400) (h3 : ∀ k, k < L.length → goodB p (L.getD k []) = true) : okL p L = true := by
  unfold okL
  rw [h1, decide_eq_true h2]
  simp only [Bool.true_and, List.all_eq_true]
  intro x hx
  obtain ⟨k, hk, rfl⟩ := List.getElem_of_mem hx
  have := h3 k hk
  simpa [hk] using this
theorem okL_all {p : Int} {L : List (List Int)} (h : okL p L = true) : ∀ x ∈ L, goodB p x = true := by
  unfold okL at h
  simp only [Bool.and_eq_true, List.all_eq_true] at h
  exact h.2

theorem leastR_len {p : Int} {L : List (List Int)} : (leastR p L).length = (leastR p L).length := rfl

/-- How the program's LeastMarks ends. -/
def LjEnd (ok : Bool) (R : List (List Int)) (w : World) (e : Ending) (w' : World) : Prop :=
  ∃ a B hi c, e = .returned (.tuple #[.slice a R.length c, .bool ok]) ∧ NetF w' a B hi R.length (fun j => R.getD j []) ∧ w.heap.size ≤ B ∧ hi ≤ w'.heap.size ∧ Below w.heap.size w w' ∧ R.length ≤ c

theorem ljEnd_no {p : Int} {L : List (List Int)} {w w' : World} (h : okL p L = false) (hb : Below w.heap.size w w') : LjEnd (okL p L) (leastR p L) w (.returned (.tuple #[.slice none 0 0, .bool false])) w' := by
  have hr : leastR p L = [] := by unfold leastR; rw [h]; rfl
  rw [h, hr]
  exact ⟨none, w.heap.size, 0, 0, rfl, .inl rfl, Nat.le_refl _, Nat.zero_le _, hb, Nat.le_refl _⟩

theorem least_of {p : Int} {n : Nat} {L ds' : List (List Int)} (hok : okL p L = true) (hn : n = p.toNat) (hn16 : n ≤ 16) (hm : ∀ x, x ∈ ds' ↔ x ∈ L) (hs : ds'.Pairwise fun x y => ¬ cfT n y x < 0) : keepL n ds' = leastR p L := by
  have hl : ∀ x ∈ ds', x.length = n := fun x hx => by rw [hn]; exact good_len (okL_all hok x ((hm x).mp hx))
  have hs' : ds'.Pairwise fun x y => ¬ cmpL n y x < 0 := hs.imp fun {x y} h => by rw [cfT, cmpL_pad _ _ _ hn16] at h; exact h
  unfold leastR
  rw [if_pos hok, ← hn]
  exact ((keep_min hl hs').perm hm).least
end Go.Proofs.Ytegabkegbhglfaa


/- The program's lists of some marks, each in a block of its own. -/
namespace Go.Proofs.Ytegabkegbhglfaa
open Go.RowKit
set_option maxRecDepth 10000

/-- A slice of marks, one behind the other, each of l places. -/
structure TokL (w : World) (a : Option Addr) (N l : Nat) (ms : List (List Int)) : Prop where
  len : ms.length = N
  cells : N = 0 ∨ ∃ G o, a = some ⟨G, o, none⟩ ∧ G < w.heap.size ∧ ∀ k, k < N → w.rangeAt G (o + k * 16) ((packOf (ms.getD k []) l).toList)

theorem encU_len (l : Nat) (m : List Int) : (packOf m l).toList.length = 16 := by simp [packOf_size]

theorem wpList_load_tokU {ops : Array Oper} {rest : List Oper} {op : Oper} {a : Act} {w : World} {Q : Exit → Act → World → Prop} (hgd : op.guard = none) (x : Operand) (ho : op.op = .load 82 x)
    (b o : Nat) (hx : a.eval x = .pointer (some ⟨b, o, none⟩)) (l : Nat) (m : List Int) (hc : w.rangeAt b o (packOf m l).toList)
    (h : wpList Try.prog ops Q rest (a.put op.dst (.agg (packOf m l))) w) : wpList Try.prog ops Q (op :: rest) a w := by
  refine wpList_load_mid hgd 82 x ho b o hx (packOf m l).toList _ hc Try.underlying82 rfl (by rw [encU_len]; exact Try.size82) ?_
  simpa using h

theorem TokL.grow {w w' : World} {a : Option Addr} {N l : Nat} {ms : List (List Int)} (h : TokL w a N l ms) (hb : Below w.heap.size w w') : TokL w' a N l ms := by
  refine ⟨h.len, ?_⟩
  rcases h.cells with h0 | ⟨G, o, e, hG, hc⟩
  · exact .inl h0
  · exact .inr ⟨G, o, e, Nat.lt_of_lt_of_le hG hb.size, fun k hk j v hv => (hb.cell (p := ⟨G, o + k * 16 + j, none⟩) hG).trans (hc k hk j v hv)⟩

theorem TokL.at_ {w : World} {a : Option Addr} {N l : Nat} {ms : List (List Int)} (h : TokL w a N l ms) {k : Nat} (hk : k < N) : ∃ G o, a = some ⟨G, o, none⟩ ∧ G < w.heap.size ∧ w.rangeAt G (o + k * 16) ((packOf (ms.getD k []) l).toList) := by
  rcases h.cells with h0 | ⟨G, o, e, hG, hc⟩
  · omega
  · exact ⟨G, o, e, hG, hc k hk⟩

theorem listF_fU {m : List Int} {l : Nat} (h : m.length = l) : listF (fOf m l) l = m := by
  apply List.ext_getElem (by rw [listF_len]; omega)
  intro i h1 h2
  simp only [listF, List.getElem_map, List.getElem_range, fOf]
  rw [if_pos (by rw [listF_len] at h1; exact h1)]
  simp [h2]

theorem Try.info30u : (Try.prog.info? 30).map (fun i => (i.zero, i.size, i.bytes)) = some (some (.slice none 0 0), 1, 24) := by kernel_rfl

set_option maxHeartbeats 2000000 in
theorem listsTok_any (l N c : Nat) (a : Option Addr) (ms : List (List Int)) (w : World) (h : TokL w a N l ms) (hl : l ≤ 16) (hN : N ≤ 400) (hg : ∀ k, k < N → (ms.getD k []).length = l ∧ ∀ i, 0 ≤ (ms.getD k []).getD i 0 ∧ (ms.getD k []).getD i 0 ≤ 50) :
    Calls Try.prog 56 #[.int .i64 (l : Int), .slice a N c] w fun e w' => ∃ M, e = .returned (.slice (some ⟨M, 0, none⟩) N N) ∧ w.heap.size ≤ M ∧ PartL w' M N N 30 ms ∧ Below w.heap.size w w' := by
  have hmk := run_make_many (P := Try.prog) 24 30 _ 1 24 Try.underlying24 Try.info30u .i64 .i64 N (by omega) (by omega)
  simp only [Value.cells, Nat.mul_one] at hmk
  have HT := hide h
  have HG := hide hg
  clear h hg
  go_enter Try.func56, Try.ntmps56
  have HP1 := hide (show PartL (w.alloc (.cells (madeCells #[.slice none 0 0] N) 30)) w.heap.size N 0 30 ms from ⟨_, fun _ => 0, heap_alloc_new _ _, by rw [size_madeCells], fun j hj => absurd hj (by omega), fun i j _ hj => absurd hj (by omega)⟩)
  have HB1 := hide (below_al w (.cells (madeCells #[.slice none 0 0] N) 30))
  go_wp2_with fail
  generalize w.alloc (.cells (madeCells #[.slice none 0 0] N) 30) = v1 at *
  go_loopw [13] (fun i wr => ∃ k : Nat, k ≤ N ∧ i = .int .i64 k ∧ Hid (PartL wr w.heap.size N k 30 ms) ∧ Hid (Below w.heap.size w wr)) (fun i _ => N - (intOf i).toNat)
  case atStart => exact ⟨0, Nat.zero_le _, rfl, HP1, HB1⟩
  case round =>
    obtain ⟨k, hk, rfl, hp, hbw⟩ := hrel
    clear hmk HP1 HB1
    by_cases hlt : k < N
    rotate_left
    · have hk' : k = N := by omega
      rw [hk'] at hp
      have HPF := hide hp.out
      clear hp
      subst hk'
      go_wp2_with fail
      go_ret
      exact ⟨_, rfl, Nat.le_refl _, HPF.out, hbw.out⟩
    obtain ⟨G, o, rfl, hGl, hrg⟩ := (HT.out.grow hbw.out).at_ hlt
    obtain ⟨m, hm⟩ : ∃ m, Hid (ms.getD k [] = m) := ⟨_, rfl⟩
    have HGk := hide (HG.out k hlt)
    rw [hm.out] at hrg HGk
    have hkN : (k : Int) < (N : Int) := by omega
    have hk0 : (0 : Int) ≤ (k : Int) := by omega
    have hk4 : (k : Int) ≤ 400 := by omega
    have hA1 := below_al wr (.cells #[.int .u8 0, .int .u8 0, .int .u8 0, .int .u8 0, .int .u8 0, .int .u8 0, .int .u8 0, .int .u8 0, .int .u8 0, .int .u8 0, .int .u8 0, .int .u8 0, .int .u8 0, .int .u8 0, .int .u8 0, .int .u8 0] 82)
    have hg0 := heap_alloc_new wr (.cells #[.int .u8 0, .int .u8 0, .int .u8 0, .int .u8 0, .int .u8 0, .int .u8 0, .int .u8 0, .int .u8 0, .int .u8 0, .int .u8 0, .int .u8 0, .int .u8 0, .int .u8 0, .int .u8 0, .int .u8 0, .int .u8 0] 82)
    have hV := below_setRow hA1 wr.heap.size (Nat.le_refl _) (packOf m l)
    have hz := setRow_same hg0 (packOf m l)
    have HB2 := hide hV
    go_wp2_with (first
      | ((show wpList _ _ _ (⟨some 17, .load 82 (.tmp 16), _, _, _, _⟩ :: _) _ _); refine wpList_load_tokU rfl (.tmp 16) rfl G (o + k * 16) rfl l m hrg ?_)
      | ((show wpList _ _ _ (⟨none, .store 82 (.tmp 7) (.tmp 17), _, _, _, _⟩ :: _) _ _); refine wpList_store_row rfl 82 _ _ rfl _ _ rfl rfl 82 _ hg0 (by rw [packOf_size]; exact Try.size82) (by rw [packOf_size]; rfl) (packOf_one _ _) ?_)
      | ((show wpList _ _ _ (⟨some 20, .load 82 (.tmp 7), _, _, _, _⟩ :: _) _ _); refine wpList_load_row rfl 82 (.tmp 7) rfl _ rfl 82 (packOf m l) (0, 0) _ hz Try.underlying82 rfl (by rw [packOf_size]; exact Try.size82) ?_))
    clear hg0 hz hA1 hV hrg
    generalize (wr.alloc (.cells #[.int .u8 0, .int .u8 0, .int .u8 0, .int .u8 0, .int .u8 0, .int .u8 0, .int .u8 0, .int .u8 0, .int .u8 0, .int .u8 0, .int .u8 0, .int .u8 0, .int .u8 0, .int .u8 0, .int .u8 0, .int .u8 0] 82)).setRow wr.heap.size (packOf m l) = w2 at *
    refine (list_any (fOf m l) l w2 hl (fun i => by have := HGk.out.2 i; unfold fOf; split <;> omega)).mono ?_
    rintro e w3 ⟨rfl, rfl⟩
    have hA2 := (below_al w2 (.cells (tokF (fOf m l)) 82)).trans ((below_al (w2.alloc (.cells (tokF (fOf m l)) 82)) (.cells (cellsOf (listF (fOf m l) l)) 3)).mono (by simp))
    have hnew := heap_alloc2_new w2 (.cells (tokF (fOf m l)) 82) (.cells (cellsOf (listF (fOf m l) l)) 3)
    have hml := HGk.out.1
    rw [listF_fU hml] at hnew hA2 ⊢
    have hbb := HB2.out.trans (hA2.mono HB2.out.size)
    have hst := hp.out.step1 hlt hbb (show wr.heap.size ≤ w2.heap.size + 1 by have := HB2.out.size; omega) hnew hm.out
    rw [hml] at hst
    have HP := hide hst
    have HB := hide ((hbw.out.trans (hbb.mono hbw.out.size)).setCell (p := ⟨w.heap.size, k, none⟩) (Nat.le_refl _) (.slice (some ⟨w2.heap.size + 1, 0, none⟩) l l))
    obtain ⟨v0, hv0, hfr⟩ := (hp.out.grow hbb).spot hlt
    clear hst hnew hA2 hbb hml
    go_wp2_with fail
    go_roundw
    case rel => exact ⟨k + 1, by omega, by go_num, HP, HB⟩
    case measure => simp [intOf]; omega
end Go.Proofs.Ytegabkegbhglfaa


/- When a net is good, as the specification reckons it: l1Rising and the specification's GoodNet, for every net in memory. -/
namespace Go.Proofs.Ytegabkegbhglfaa
open Go.RowKit

/-- Numbers that rise, from lo to hi. -/
def riseB : List Int → Int → Int → Bool
  | [], _, _ => true
  | x :: xs, lo, hi => decide (lo ≤ x) && decide (x ≤ hi) && riseB xs (x + 1) hi

/-- As many as the first k rise; then the least that may follow. -/
theorem riseB_append (xs ys : List Int) (lo hi : Int) : riseB (xs ++ ys) lo hi = (riseB xs lo hi && riseB ys (xs.getLast?.elim lo (· + 1)) hi) := by
  induction xs generalizing lo with
  | nil => simp [riseB]
  | cons x r ih =>
    simp only [List.cons_append, riseB, ih]
    have : (x :: r).getLast?.elim lo (· + 1) = r.getLast?.elim (x + 1) (· + 1) := by
      cases r with
      | nil => rfl
      | cons y r' =>
        obtain ⟨z, hz⟩ : ∃ z, (y :: r').getLast? = some z := ⟨_, List.getLast?_eq_some_getLast (by simp)⟩
        rw [List.getLast?_cons_cons, hz]; rfl
    rw [this]
    simp [Bool.and_assoc]

/-- What the first k numbers ask of the next. -/
def nextLo (xs : List Int) (k : Nat) (lo : Int) : Int := if k = 0 then lo else xs.getD (k - 1) 0 + 1

theorem nextLo_take (xs : List Int) (k : Nat) (lo : Int) (hk : k ≤ xs.length) : (xs.take k).getLast?.elim lo (· + 1) = nextLo xs k lo := by
  unfold nextLo
  by_cases h : k = 0
  · subst h; simp
  · rw [if_neg h, List.getLast?_take]
    simp [h, List.getElem?_eq_getElem (show k - 1 < xs.length by omega)]

theorem riseB_step {xs : List Int} {k : Nat} {x lo hi : Int} (h : riseB (xs.take k) lo hi = true) (hx : xs[k]? = some x) : riseB (xs.take (k + 1)) lo hi = (decide (nextLo xs k lo ≤ x) && decide (x ≤ hi)) := by
  have hk : k < xs.length := (List.getElem?_eq_some_iff.mp hx).1
  rw [List.take_add_one, hx, riseB_append, h, nextLo_take xs k lo (by omega)]
  simp [riseB]

theorem riseB_no {xs : List Int} {k : Nat} {lo hi : Int} (h : riseB (xs.take k) lo hi = false) : riseB xs lo hi = false := by
  conv => lhs; rw [← List.take_append_drop k xs]
  rw [riseB_append, h]; rfl

theorem riseB_take {xs : List Int} {k : Nat} {lo hi : Int} (h : riseB xs lo hi = true) : riseB (xs.take k) lo hi = true := by
  cases hq : riseB (xs.take k) lo hi with
  | true => rfl
  | false => rw [riseB_no hq] at h; exact h

/-- What is next is no less than lo, where the first ones rise. -/
theorem nextLo_ge {xs : List Int} {k : Nat} {lo hi : Int} (h : riseB (xs.take k) lo hi = true) (hk : k ≤ xs.length) : lo ≤ nextLo xs k lo := by
  induction k with
  | zero => simp [nextLo]
  | succ k ih =>
    have hk' : k < xs.length := by omega
    have h0 : riseB (xs.take k) lo hi = true := by
      have := riseB_take (k := k) h
      rwa [List.take_take, Nat.min_eq_left (by omega)] at this
    rw [riseB_step h0 (List.getElem?_eq_getElem hk')] at h
    simp at h
    have := ih h0 (by omega)
    simp only [nextLo, Nat.add_one_ne_zero, if_false, Nat.add_sub_cancel]
    rw [List.getD_eq_getElem?_getD, List.getElem?_eq_getElem hk']
    simp; omega

theorem riseB_done {xs : List Int} {n : Nat} {lo hi : Int} (h : riseB (xs.take n) lo hi = true) (hl : xs.length = n) : riseB xs lo hi = true := by
  rwa [List.take_of_length_le (by omega)] at h

set_option maxHeartbeats 1000000 in
theorem rising_any (a : Option Addr) (n ca : Nat) (xs : List Int) (lo hi : Int) (w : World) (ha : Row w a n xs) (hn : n ≤ 1048576) :
    Calls Try.prog 103 #[.slice a n ca, .int .i64 lo, .int .i64 hi] w fun e w' => e = .returned (.bool (riseB xs lo hi)) ∧ w' = w := by
  go_enter Try.func103, Try.ntmps103
  go_wp2_with fail
  go_loop [11] (fun i => ∃ k : Nat, k ≤ n ∧ i = .int .i64 k ∧ Hid (riseB (xs.take k) lo hi = true)) (fun i => n - (intOf i).toNat)
  case atStart => exact ⟨0, Nat.zero_le _, rfl, rfl⟩
  case round =>
    obtain ⟨k, hk, rfl, hu⟩ := hrel
    by_cases hlt : k < n
    · obtain ⟨b1, o1, x, rfl, hl1, hc1, H1⟩ := ha.at hlt
      have HS := hide (riseB_step hu.out H1.out)
      have HGE := hide (nextLo_ge hu.out (show k ≤ xs.length by have := ha.1; omega))
      by_cases hi' : inB x lo hi = true
      · have HI : Hid (lo ≤ x ∧ x ≤ hi) := by simpa [inB, Hid] using hi'
        by_cases h0 : k = 0
        · subst h0
          have HU : Hid (riseB (xs.take (0 + 1)) lo hi = true) := by
            show riseB (xs.take (0 + 1)) lo hi = true
            rw [HS.out]; simp [nextLo, HI.out.1, HI.out.2]
          rw [Nat.add_zero] at hc1
          clear ha hu HS HGE H1
          go_wp2_with (go_at_call 92; refine (in_any _ _ _ _).mono ?_; rintro e w' ⟨rfl, rfl⟩)
          go_round
          case rel => exact ⟨0 + 1, by omega, by go_num, HU⟩
          case measure => simp [intOf]; omega
        · obtain ⟨j, rfl⟩ : ∃ j, k = j + 1 := ⟨k - 1, by omega⟩
          obtain ⟨b2, o2, y, he, hl2, hc2, H2⟩ := ha.at (show j < n by omega)
          simp only [Option.some.injEq, Addr.mk.injEq] at he
          obtain ⟨rfl, rfl, _⟩ := he
          have hnx : nextLo xs (j + 1) lo = y + 1 := by
            simp only [nextLo, Nat.add_one_ne_zero, if_false, Nat.add_sub_cancel]
            rw [List.getD_eq_getElem?_getD, H2.out]; rfl
          have hz : (0 : Int) < ((j + 1 : Nat) : Int) := by omega
          have hj : ((j + 1 : Nat) : Int) - 1 = ((j : Nat) : Int) := by omega
          have hjn : ((j : Nat) : Int) < (n : Int) := by omega
          by_cases hyx : y < x
          · have HU : Hid (riseB (xs.take (j + 1 + 1)) lo hi = true) := by
              show riseB (xs.take (j + 1 + 1)) lo hi = true
              rw [HS.out, hnx]; have := HI.out; simp; omega
            clear ha hu HS HGE H1 H2 hnx
            go_wp2_with (go_at_call 92; refine (in_any _ _ _ _).mono ?_; rintro e w' ⟨rfl, rfl⟩)
            go_round
            case rel => exact ⟨j + 1 + 1, by omega, by go_num, HU⟩
            case measure => simp [intOf]; omega
          · have HN : Hid (riseB xs lo hi = false) := by
              refine riseB_no (k := j + 1 + 1) ?_
              rw [HS.out, hnx]; simp; omega
            clear ha hu HS HGE H1 H2 hnx
            go_wp2_with (go_at_call 92; refine (in_any _ _ _ _).mono ?_; rintro e w' ⟨rfl, rfl⟩)
            go_ret
            exact ⟨ret_bool HN.out.symm, rfl⟩
      · have hi'' : inB x lo hi = false := by simpa using hi'
        have HN : Hid (riseB xs lo hi = false) := by
          refine riseB_no (k := k + 1) ?_
          rw [HS.out]
          have h1 := HGE.out
          simp [inB] at hi'
          simp; intro h2; omega
        clear ha hu HS HGE H1 hi'
        go_wp2_with (go_at_call 92; refine (in_any _ _ _ _).mono ?_; rintro e w' ⟨rfl, rfl⟩)
        go_ret
        exact ⟨ret_bool HN.out.symm, rfl⟩
    · have hk' : k = n := by omega
      subst hk'
      have HA := hide (riseB_done hu.out ha.1)
      go_wp2_with fail
      go_ret
      exact ⟨ret_bool HA.out.symm, rfl⟩
end Go.Proofs.Ytegabkegbhglfaa


/- When a net is good, by the specification: GoodNet for every net in memory. -/
namespace Go.Proofs.Ytegabkegbhglfaa
open Go.RowKit

def triOk (p : Int) (L : List (List Int)) (i : Nat) : Bool :=
  !(L.getD (3 * i) []).isEmpty && riseB (L.getD (3 * i) []) 0 (p - 1) && riseB (L.getD (3 * i + 1) []) 0 (p - 1) && riseB (L.getD (3 * i + 2) []) 0 (p - 1)

def netOk (p : Int) (n : Nat) (L : List (List Int)) : Bool := inB p 1 16 && decide (n ≤ 24) && (List.range n).all (triOk p L)

theorem triOk_no0 {p : Int} {L : List (List Int)} {i : Nat} (h : L.getD (3 * i) [] = []) : triOk p L i = false := by unfold triOk; rw [h]; rfl
theorem triOk_no1 {p : Int} {L : List (List Int)} {i : Nat} {x : List Int} (h : L.getD (3 * i) [] = x) (hr : riseB x 0 (p - 1) = false) : triOk p L i = false := by unfold triOk; rw [h, hr]; simp
theorem triOk_no2 {p : Int} {L : List (List Int)} {i : Nat} {x : List Int} (h : L.getD (3 * i + 1) [] = x) (hr : riseB x 0 (p - 1) = false) : triOk p L i = false := by unfold triOk; rw [h, hr]; simp
theorem triOk_no3 {p : Int} {L : List (List Int)} {i : Nat} {x : List Int} (h : L.getD (3 * i + 2) [] = x) (hr : riseB x 0 (p - 1) = false) : triOk p L i = false := by unfold triOk; rw [h, hr]; simp
theorem triOk_yes {p : Int} {L : List (List Int)} {i : Nat} {x y z : List Int} (h : L.getD (3 * i) [] = x) (h1 : L.getD (3 * i + 1) [] = y) (h2 : L.getD (3 * i + 2) [] = z) (hx : x ≠ []) (hr : riseB x 0 (p - 1) = true) (hr1 : riseB y 0 (p - 1) = true) (hr2 : riseB z 0 (p - 1) = true) : triOk p L i = true := by
  unfold triOk; rw [h, h1, h2, hr, hr1, hr2]; cases x <;> simp_all

theorem netOk_no {p : Int} {n i : Nat} {L : List (List Int)} (hi : i < n) (h : triOk p L i = false) : netOk p n L = false := by
  unfold netOk
  have : (List.range n).all (triOk p L) = false := by rw [List.all_eq_false]; exact ⟨i, by simpa using hi, by simp [h]⟩
  rw [this]; simp

theorem netOk_yes {p : Int} {n : Nat} {L : List (List Int)} (hp : inB p 1 16 = true) (hn : n ≤ 24) (h : (List.range n).all (triOk p L) = true) : netOk p n L = true := by
  unfold netOk; rw [hp, h]; simpa using hn

theorem all_range_succ {f : Nat → Bool} {k : Nat} (h : (List.range k).all f = true) (hk : f k = true) : (List.range (k + 1)).all f = true := by
  rw [List.range_succ, List.all_append, h]; simp [hk]

set_option maxHeartbeats 2000000 in
theorem goodNetS_any (p : Int) (a : Option Addr) (n c : Nat) (L : List (List Int)) (w : World) (h : Lists w a (3 * n) L) (hs : sizeN n L ≤ 1048576) :
    Calls Try.prog 48 #[.agg #[.int .i64 p, .slice a n c]] w fun e w' => e = .returned (.bool (netOk p n L)) ∧ Below w.heap.size w w' := by
  have HL := hide (h.below (below_al w (.cells #[.int .i64 p, .slice a n c] 39)))
  clear h
  by_cases hp : inB p 1 16 = true
  · by_cases hn : n ≤ 24
    · have hp1 : 1 ≤ p ∧ p ≤ 16 := by simpa [inB] using hp
      obtain ⟨hp2, hp3⟩ := hp1
      go_enter Try.func48, Try.ntmps48
      go_wp2_with (go_at_call 58; refine (places_any _ _).mono ?_; rintro e w' ⟨rfl, rfl⟩)
      have HW := hide (below_al w (.cells #[.int .i64 p, .slice a n c] 39))
      have HC0 := hide (cell_of_row (w.alloc (.cells #[.int .i64 p, .slice a n c] 39)) w.heap.size 0 _ _ _ (heap_alloc_new _ _))
      have hsz : w.heap.size < (w.alloc (.cells #[.int .i64 p, .slice a n c] 39)).heap.size := by simp
      generalize w.alloc (.cells #[.int .i64 p, .slice a n c] 39) = w1 at *
      go_loopw [18] (fun i wr => ∃ k : Nat, k ≤ n ∧ i = .int .i64 k ∧ Hid ((List.range k).all (triOk p L) = true) ∧ Hid (Below w1.heap.size w1 wr)) (fun i _ => n - (intOf i).toNat)
      case atStart => exact ⟨0, Nat.zero_le _, rfl, rfl, Below.refl _ _⟩
      case round =>
        obtain ⟨k, hk, rfl, hu, hbw⟩ := hrel
        by_cases hlt : k < n
        · obtain ⟨b, off, a0, n0, c0, a1, n1, c1, a2, n2, c2, rfl, hb, hr, m0, m1, m2, r0, r1, r2⟩ := (HL.out.below hbw.out).tri hlt
          obtain ⟨hc0, hc1, hc2⟩ := rangeAt_cells3 hr
          have hl0 := len_le L (3 * k)
          have hl1 := len_le L (3 * k + 1)
          have hl2 := len_le L (3 * k + 2)
          have hs' : n + sizeL L ≤ 1048576 := hs
          obtain ⟨x0, hx0⟩ : ∃ x, Hid (L.getD (3 * k) [] = x) := ⟨_, rfl⟩
          obtain ⟨x1, hx1⟩ : ∃ x, Hid (L.getD (3 * k + 1) [] = x) := ⟨_, rfl⟩
          obtain ⟨x2, hx2⟩ : ∃ x, Hid (L.getD (3 * k + 2) [] = x) := ⟨_, rfl⟩
          rw [hx0.out] at r0 hl0
          rw [hx1.out] at r1 hl1
          rw [hx2.out] at r2 hl2
          have q0 : n0 ≤ 1048576 := by have := r0.1; omega
          have q1 : n1 ≤ 1048576 := by have := r1.1; omega
          have q2 : n2 ≤ 1048576 := by have := r2.1; omega
          have hcp : wr.cell? ⟨w.heap.size, 0, none⟩ = some (.int .i64 p) := (hbw.out.cell (p := ⟨w.heap.size, 0, none⟩) hsz).trans HC0.out
          have hpw : w.heap.size < wr.heap.size := by have := hbw.out.size; omega
          have HB := hide (HW.out.trans ((hbw.out.trans ((below_al wr (.cells #[.slice a0 n0 c0, .slice a1 n1 c1, .slice a2 n2 c2] 126)).mono hbw.out.size)).mono (by omega)))
          have HB' := hide (hbw.out.trans ((below_al wr (.cells #[.slice a0 n0 c0, .slice a1 n1 c1, .slice a2 n2 c2] 126)).mono hbw.out.size))
          have R0 := hide (r0.alloc (.cells #[.slice a0 n0 c0, .slice a1 n1 c1, .slice a2 n2 c2] 126))
          have R1 := hide (r1.alloc (.cells #[.slice a0 n0 c0, .slice a1 n1 c1, .slice a2 n2 c2] 126))
          have R2 := hide (r2.alloc (.cells #[.slice a0 n0 c0, .slice a1 n1 c1, .slice a2 n2 c2] 126))
          clear hr r0 r1 r2 hl0 hl1 hl2 hs' m0 m1 m2 hs hn
          by_cases hz : n0 = 0
          · subst hz
            have HN : Hid (netOk p n L = false) := netOk_no hlt (triOk_no0 (hx0.out.trans (List.length_eq_zero_iff.mp R0.out.1)))
            clear R0 R1 R2 hx0 hx1 hx2 hu HB'
            go_wp2_with fail
            go_ret
            exact ⟨ret_bool HN.out.symm, HB.out⟩
          have hz' : (n0 : Int) ≠ 0 := by omega
          by_cases g0 : riseB x0 0 (p - 1) = true
          rotate_left
          · have g0' : riseB x0 0 (p - 1) = false := by simpa using g0
            have HN : Hid (netOk p n L = false) := netOk_no hlt (triOk_no1 hx0.out g0')
            clear R1 R2 hx0 hx1 hx2 hu HB' g0
            go_wp2_with fail
            refine (rising_any _ _ _ x0 _ _ _ R0.out q0).mono ?_
            rintro e w' ⟨rfl, rfl⟩
            go_wp2_with fail
            go_ret
            exact ⟨ret_bool HN.out.symm, HB.out⟩
          by_cases g1 : riseB x1 0 (p - 1) = true
          rotate_left
          · have g1' : riseB x1 0 (p - 1) = false := by simpa using g1
            have HN : Hid (netOk p n L = false) := netOk_no hlt (triOk_no2 hx1.out g1')
            clear R2 hx0 hx1 hx2 hu HB' g1
            go_wp2_with fail
            refine (rising_any _ _ _ x0 _ _ _ R0.out q0).mono ?_
            rintro e w' ⟨rfl, rfl⟩
            go_wp2_with fail
            refine (rising_any _ _ _ x1 _ _ _ R1.out q1).mono ?_
            rintro e w' ⟨rfl, rfl⟩
            go_wp2_with fail
            go_ret
            exact ⟨ret_bool HN.out.symm, HB.out⟩
          by_cases g2 : riseB x2 0 (p - 1) = true
          rotate_left
          · have g2' : riseB x2 0 (p - 1) = false := by simpa using g2
            have HN : Hid (netOk p n L = false) := netOk_no hlt (triOk_no3 hx2.out g2')
            clear hx0 hx1 hx2 hu HB' g2
            go_wp2_with fail
            refine (rising_any _ _ _ x0 _ _ _ R0.out q0).mono ?_
            rintro e w' ⟨rfl, rfl⟩
            go_wp2_with fail
            refine (rising_any _ _ _ x1 _ _ _ R1.out q1).mono ?_
            rintro e w' ⟨rfl, rfl⟩
            go_wp2_with fail
            refine (rising_any _ _ _ x2 _ _ _ R2.out q2).mono ?_
            rintro e w' ⟨rfl, rfl⟩
            go_wp2_with fail
            go_ret
            exact ⟨ret_bool HN.out.symm, HB.out⟩
          have HU : Hid ((List.range (k + 1)).all (triOk p L) = true) := all_range_succ hu.out (triOk_yes hx0.out hx1.out hx2.out (fun e => hz (by rw [← R0.out.1, e]; rfl)) g0 g1 g2)
          clear hx0 hx1 hx2 hu HB
          go_wp2_with fail
          refine (rising_any _ _ _ x0 _ _ _ R0.out q0).mono ?_
          rintro e w' ⟨rfl, rfl⟩
          go_wp2_with fail
          refine (rising_any _ _ _ x1 _ _ _ R1.out q1).mono ?_
          rintro e w' ⟨rfl, rfl⟩
          go_wp2_with fail
          refine (rising_any _ _ _ x2 _ _ _ R2.out q2).mono ?_
          rintro e w' ⟨rfl, rfl⟩
          go_wp2_with fail
          go_roundw
          case rel => exact ⟨k + 1, by omega, by go_num, HU, HB'⟩
          case measure => simp [intOf]; omega
        · have hk' : k = n := by omega
          subst hk'
          have HN : Hid (netOk p k L = true) := netOk_yes hp hn hu.out
          have HB := hide (HW.out.trans (hbw.out.mono (by omega)))
          go_wp2_with fail
          go_ret
          exact ⟨ret_bool HN.out.symm, HB.out⟩
    · have HN : Hid (netOk p n L = false) := by show netOk p n L = false; unfold netOk; simp [hn]
      have hn' : (24 : Int) < (n : Int) := by omega
      go_enter Try.func48, Try.ntmps48
      go_wp2_with (go_at_call 58; refine (places_any _ _).mono ?_; rintro e w' ⟨rfl, rfl⟩)
      go_ret
      exact ⟨ret_bool HN.out.symm, below_al _ _⟩
  · have hp' : inB p 1 16 = false := by simpa using hp
    have HN : Hid (netOk p n L = false) := by show netOk p n L = false; unfold netOk; simp [hp']
    clear hp
    go_enter Try.func48, Try.ntmps48
    go_wp2_with (go_at_call 58; refine (places_any _ _).mono ?_; rintro e w' ⟨rfl, rfl⟩)
    go_ret
    exact ⟨ret_bool HN.out.symm, below_al _ _⟩
end Go.Proofs.Ytegabkegbhglfaa


/- Sets of places as bits: placesOf, stepOf and netSteps of the program, for every net in memory. -/
namespace Go.Proofs.Ytegabkegbhglfaa
open Go.RowKit

/-- The bits of a list of places. -/
def maskL (xs : List Int) : Nat := xs.foldl (fun s x => s ||| 2 ^ x.toNat) 0

theorem maskL_snoc (xs : List Int) (x : Int) : maskL (xs ++ [x]) = maskL xs ||| 2 ^ x.toNat := by simp [maskL, List.foldl_append]

theorem maskL_take (xs : List Int) (k : Nat) (x : Int) (h : xs[k]? = some x) : maskL (xs.take (k + 1)) = maskL (xs.take k) ||| 2 ^ x.toNat := by
  rw [List.take_add_one, h]; exact maskL_snoc _ _

/-- Induction from the list's end. -/
theorem snoc_ind {P : List Int → Prop} (h0 : P []) (h1 : ∀ xs x, P xs → P (xs ++ [x])) (xs : List Int) : P xs := by
  have : ∀ ys : List Int, P ys.reverse := by
    intro ys
    induction ys with
    | nil => exact h0
    | cons y r ih => rw [List.reverse_cons]; exact h1 _ _ ih
  have := this xs.reverse
  rwa [List.reverse_reverse] at this

theorem maskL_lt (xs : List Int) (h : ∀ x ∈ xs, x < 16) : maskL xs < 2 ^ 16 := by
  induction xs using snoc_ind with
  | h0 => simp [maskL]
  | h1 xs x ih =>
    rw [maskL_snoc]
    refine Nat.or_lt_two_pow (ih fun y hy => h y (by simp [hy])) ?_
    have := h x (by simp)
    exact Nat.pow_lt_pow_right (by decide) (by omega)

theorem maskL_bit (xs : List Int) (i : Nat) (h : ∀ x ∈ xs, 0 ≤ x) : (maskL xs).testBit i = decide ((i : Int) ∈ xs) := by
  induction xs using snoc_ind with
  | h0 => simp [maskL]
  | h1 xs x ih =>
    rw [maskL_snoc, Nat.testBit_or, ih fun y hy => h y (by simp [hy]), Nat.testBit_two_pow]
    have hx := h x (by simp)
    have : decide (x.toNat = i) = decide ((i : Int) = x) := by
      congr 1; apply propext; constructor <;> intro e <;> omega
    rw [this]
    simp [List.mem_append]

theorem riseB_mem {xs : List Int} {lo hi : Int} (h : riseB xs lo hi = true) : ∀ x ∈ xs, lo ≤ x ∧ x ≤ hi := by
  induction xs generalizing lo with
  | nil => intro x hx; simp at hx
  | cons y r ih =>
    simp [riseB] at h
    intro x hx
    rcases List.mem_cons.mp hx with rfl | hx
    · exact h.1
    · have := ih h.2 x hx; omega

theorem wraps_u16 (n : Int) (h₀ : 0 ≤ n) (h₁ : n < 2 ^ 16) : IntKind.u16.wrap n = n := by
  simp [IntKind.wrap, IntKind.bits, IntKind.signed]; omega

theorem or_u16 (a b : Nat) (ha : a < 2 ^ 16) (hb : b < 2 ^ 16) : bits .or .u16 (a : Int) (b : Int) = ((a ||| b : Nat) : Int) := (bits_nat .u16 16 (by decide) wraps_u16 a b ha hb).2
theorem and_u16 (a b : Nat) (ha : a < 2 ^ 16) (hb : b < 2 ^ 16) : bits .and .u16 (a : Int) (b : Int) = ((a &&& b : Nat) : Int) := (bits_nat .u16 16 (by decide) wraps_u16 a b ha hb).1

/-- What placesOf answers. -/
def setOf (p : Int) (xs : List Int) : Nat := if riseB xs 0 (p - 1) then maskL xs else 0

theorem ret_set {s t : Nat} {a b : Bool} (h : s = t) (hb : a = b) : Ending.returned (.tuple #[.int .u16 (s : Int), .bool a]) = .returned (.tuple #[.int .u16 (t : Int), .bool b]) := by rw [h, hb]

set_option maxHeartbeats 1000000 in
theorem placesOf_any (p : Int) (a : Option Addr) (n ca : Nat) (xs : List Int) (w : World) (ha : Row w a n xs) (hn : n ≤ 1048576) (hp : inB p 1 16 = true) :
    Calls Try.prog 155 #[.int .i64 p, .slice a n ca] w fun e w' => e = .returned (.tuple #[.int .u16 (setOf p xs : Int), .bool (riseB xs 0 (p - 1))]) ∧ w' = w := by
  have hp1 : 1 ≤ p ∧ p ≤ 16 := by simpa [inB] using hp
  obtain ⟨hp2, hp3⟩ := hp1
  go_enter Try.func155, Try.ntmps155
  go_wp2_with fail
  go_loop [6, 7, 12] (fun s l i => ∃ k : Nat, k ≤ n ∧ i = .int .i64 k ∧ s = .int .u16 (maskL (xs.take k) : Int) ∧ l = .int .i64 (nextLo xs k 0) ∧ Hid (riseB (xs.take k) 0 (p - 1) = true)) (fun _ _ i => n - (intOf i).toNat)
  case atStart => exact ⟨0, Nat.zero_le _, rfl, rfl, rfl, rfl⟩
  case round =>
    obtain ⟨k, hk, rfl, rfl, rfl, hu⟩ := hrel
    by_cases hlt : k < n
    · obtain ⟨b1, o1, x, rfl, hl1, hc1, H1⟩ := ha.at hlt
      have HS := hide (riseB_step hu.out H1.out)
      have hge := nextLo_ge hu.out (show k ≤ xs.length by have := ha.1; omega)
      by_cases h1 : x < nextLo xs k 0
      · have HN : Hid (riseB xs 0 (p - 1) = false) := by
          refine riseB_no (k := k + 1) ?_
          rw [HS.out]; simp; intro h2; omega
        have HE : Hid ((0 : Nat) = setOf p xs) := by show 0 = setOf p xs; unfold setOf; rw [HN.out]; rfl
        clear HS ha H1 hu
        generalize nextLo xs k 0 = nl at *
        go_wp2_with fail
        go_ret2
        exact ⟨ret_set HE.out HN.out.symm, rfl⟩
      by_cases h2 : p ≤ x
      · have HN : Hid (riseB xs 0 (p - 1) = false) := by
          refine riseB_no (k := k + 1) ?_
          rw [HS.out]; simp; intro h2; omega
        have HE : Hid ((0 : Nat) = setOf p xs) := by show 0 = setOf p xs; unfold setOf; rw [HN.out]; rfl
        clear HS ha H1 hu
        generalize nextLo xs k 0 = nl at *
        go_wp2_with fail
        go_ret2
        exact ⟨ret_set HE.out HN.out.symm, rfl⟩
      have h3 : 0 ≤ x := by omega
      have h4 : x < 16 := by omega
      have HU : Hid (riseB (xs.take (k + 1)) 0 (p - 1) = true) := by
        show riseB (xs.take (k + 1)) 0 (p - 1) = true
        rw [HS.out]; simp; omega
      have HM : Hid (bits .or .u16 (maskL (xs.take k) : Int) (IntKind.u16.wrap (2 ^ x.toNat)) = (maskL (xs.take (k + 1)) : Int)) := by
        show _ = _
        have hx2 : 2 ^ x.toNat < 2 ^ 16 := Nat.pow_lt_pow_right (by decide) (by omega)
        have hx3 : ((2 : Int) ^ x.toNat) = ((2 ^ x.toNat : Nat) : Int) := by simp
        rw [hx3, wraps_u16 _ (Int.natCast_nonneg _) (by exact_mod_cast hx2), or_u16 _ _ (maskL_lt _ fun y hy => by have := riseB_mem hu.out y hy; omega) hx2, maskL_take xs k x H1.out]
      have HX : Hid (x + 1 = nextLo xs (k + 1) 0) := by
        show _ = _
        simp only [nextLo, Nat.add_one_ne_zero, if_false, Nat.add_sub_cancel]
        rw [List.getD_eq_getElem?_getD, H1.out]; rfl
      clear HS ha H1 hu
      generalize nextLo xs k 0 = nl at *
      generalize maskL (xs.take k) = mm at *
      go_wp2_with fail
      go_round
      case rel => exact ⟨k + 1, by omega, by go_num, by rw [HM.out], by rw [HX.out], HU⟩
      case measure => simp [intOf]; omega
    · have hk' : k = n := by omega
      subst hk'
      have HA := hide (riseB_done hu.out ha.1)
      have HE : Hid (maskL (xs.take k) = setOf p xs) := by
        show maskL (xs.take k) = setOf p xs
        unfold setOf; rw [HA.out, List.take_of_length_le (by have := ha.1; omega)]; rfl
      generalize nextLo xs k 0 = nl at *
      generalize maskL (xs.take k) = mm at *
      go_wp2_with fail
      go_ret2
      exact ⟨ret_set HE.out HA.out.symm, rfl⟩

theorem maskL_zero {xs : List Int} (h : ∀ x ∈ xs, 0 ≤ x) : maskL xs = 0 ↔ xs = [] := by
  constructor
  · intro e
    cases xs with
    | nil => rfl
    | cons x r =>
      have hb := maskL_bit (x :: r) x.toNat h
      rw [e, Nat.zero_testBit] at hb
      have hx := h x (by simp)
      simp at hb; omega
  · intro e; rw [e]; rfl

/-- Whether the three lists are those of a transition. -/
def tri3Ok (p : Int) (x0 x1 x2 : List Int) : Bool := !x0.isEmpty && riseB x0 0 (p - 1) && riseB x1 0 (p - 1) && riseB x2 0 (p - 1)

def bit3 (b : Bool) (xs : List Int) : Int := if b then (maskL xs : Int) else 0

/-- What stepOf answers. -/
def StepEnd (p : Int) (x0 x1 x2 : List Int) (w : World) (e : Ending) (w' : World) : Prop :=
  e = .returned (.tuple #[.agg #[.int .u16 (bit3 (tri3Ok p x0 x1 x2) x0), .int .u16 (bit3 (tri3Ok p x0 x1 x2) x1), .int .u16 (bit3 (tri3Ok p x0 x1 x2) x2)], .bool (tri3Ok p x0 x1 x2)]) ∧ Below w.heap.size w w'

theorem stepEnd_no {p : Int} {x0 x1 x2 : List Int} {w w' : World} (h : tri3Ok p x0 x1 x2 = false) (hb : Below w.heap.size w w') : StepEnd p x0 x1 x2 w (.returned (.tuple #[.agg #[.int .u16 0, .int .u16 0, .int .u16 0], .bool false])) w' := by
  refine ⟨?_, hb⟩; rw [h]; rfl

theorem stepEnd_yes {p : Int} {x0 x1 x2 : List Int} {w w' : World} {s0 s1 s2 : Nat} (h : tri3Ok p x0 x1 x2 = true) (h0 : maskL x0 = s0) (h1 : maskL x1 = s1) (h2 : maskL x2 = s2) (hb : Below w.heap.size w w') : StepEnd p x0 x1 x2 w (.returned (.tuple #[.agg #[.int .u16 (s0 : Int), .int .u16 (s1 : Int), .int .u16 (s2 : Int)], .bool true])) w' := by
  refine ⟨?_, hb⟩; rw [h, ← h0, ← h1, ← h2]; rfl

set_option maxHeartbeats 1000000 in
theorem stepOf_any (p : Int) (a0 a1 a2 : Option Addr) (n0 n1 n2 c0 c1 c2 : Nat) (x0 x1 x2 : List Int) (w : World) (r0 : Row w a0 n0 x0) (r1 : Row w a1 n1 x1) (r2 : Row w a2 n2 x2) (h0 : n0 ≤ 1048576) (h1 : n1 ≤ 1048576) (h2 : n2 ≤ 1048576) (hp : inB p 1 16 = true) :
    Calls Try.prog 141 #[.int .i64 p, .agg #[.slice a0 n0 c0, .slice a1 n1 c1, .slice a2 n2 c2]] w fun e w' => StepEnd p x0 x1 x2 w e w' := by
  have R0 := hide r0
  have R1 := hide r1
  have R2 := hide r2
  clear r0 r1 r2
  go_enter Try.func141, Try.ntmps141
  go_wp2_with fail
  refine (placesOf_any _ _ _ _ x0 _ ((R0.out.alloc _).alloc _) h0 hp).mono ?_
  rintro e w' ⟨rfl, rfl⟩
  obtain ⟨b0, hb0⟩ : ∃ b, Hid (riseB x0 0 (p - 1) = b) := ⟨_, rfl⟩
  obtain ⟨s0, hs0⟩ : ∃ b, Hid (setOf p x0 = b) := ⟨_, rfl⟩
  rw [hb0.out, hs0.out]
  go_wp2_with fail
  refine (placesOf_any _ _ _ _ x1 _ ((R1.out.alloc _).alloc _) h1 hp).mono ?_
  rintro e w' ⟨rfl, rfl⟩
  obtain ⟨b1, hb1⟩ : ∃ b, Hid (riseB x1 0 (p - 1) = b) := ⟨_, rfl⟩
  obtain ⟨s1, hs1⟩ : ∃ b, Hid (setOf p x1 = b) := ⟨_, rfl⟩
  rw [hb1.out, hs1.out]
  go_wp2_with fail
  refine (placesOf_any _ _ _ _ x2 _ ((R2.out.alloc _).alloc _) h2 hp).mono ?_
  rintro e w' ⟨rfl, rfl⟩
  obtain ⟨b2, hb2⟩ : ∃ b, Hid (riseB x2 0 (p - 1) = b) := ⟨_, rfl⟩
  obtain ⟨s2, hs2⟩ : ∃ b, Hid (setOf p x2 = b) := ⟨_, rfl⟩
  rw [hb2.out, hs2.out]
  cases b0
  · have HN := hide (show tri3Ok p x0 x1 x2 = false by unfold tri3Ok; rw [hb0.out]; simp)
    go_wp2_with fail
    refine bodyPost_ret (v := .tuple #[.agg #[.int .u16 0, .int .u16 0, .int .u16 0], .bool false]) (by simp [results, Try.results141, go_sem]) rfl ?_
    exact stepEnd_no HN.out (below_two _ _ _)
  cases b1
  · have HN := hide (show tri3Ok p x0 x1 x2 = false by unfold tri3Ok; rw [hb1.out]; simp)
    go_wp2_with fail
    refine bodyPost_ret (v := .tuple #[.agg #[.int .u16 0, .int .u16 0, .int .u16 0], .bool false]) (by simp [results, Try.results141, go_sem]) rfl ?_
    exact stepEnd_no HN.out (below_two _ _ _)
  cases b2
  · have HN := hide (show tri3Ok p x0 x1 x2 = false by unfold tri3Ok; rw [hb2.out]; simp)
    go_wp2_with fail
    refine bodyPost_ret (v := .tuple #[.agg #[.int .u16 0, .int .u16 0, .int .u16 0], .bool false]) (by simp [results, Try.results141, go_sem]) rfl ?_
    exact stepEnd_no HN.out (below_two _ _ _)
  have HS0 : Hid (maskL x0 = s0) := by show _ = _; rw [← hs0.out]; unfold setOf; rw [hb0.out]; rfl
  have HS1 : Hid (maskL x1 = s1) := by show _ = _; rw [← hs1.out]; unfold setOf; rw [hb1.out]; rfl
  have HS2 : Hid (maskL x2 = s2) := by show _ = _; rw [← hs2.out]; unfold setOf; rw [hb2.out]; rfl
  have hz := maskL_zero (fun x hx => (riseB_mem hb0.out x hx).1)
  rw [HS0.out] at hz
  by_cases hs : s0 = 0
  · have HN := hide (show tri3Ok p x0 x1 x2 = false by unfold tri3Ok; rw [hz.mp hs]; rfl)
    clear hz
    subst hs
    go_wp2_with fail
    refine bodyPost_ret (v := .tuple #[.agg #[.int .u16 0, .int .u16 0, .int .u16 0], .bool false]) (by simp [results, Try.results141, go_sem]) rfl ?_
    exact stepEnd_no HN.out (below_two _ _ _)
  have HY := hide (show tri3Ok p x0 x1 x2 = true by
    unfold tri3Ok; rw [hb0.out, hb1.out, hb2.out]
    have : x0 ≠ [] := fun e => hs (hz.mpr e)
    cases x0 <;> simp_all)
  have hs' : (s0 : Int) ≠ 0 := by omega
  clear hz hs
  go_wp2_with fail
  refine bodyPost_ret (v := .tuple #[.agg #[.int .u16 (s0 : Int), .int .u16 (s1 : Int), .int .u16 (s2 : Int)], .bool true]) (by simp [results, Try.results141, go_sem]) rfl ?_
  exact stepEnd_yes HY.out HS0.out HS1.out HS2.out (below_two _ _ _)
end Go.Proofs.Ytegabkegbhglfaa
