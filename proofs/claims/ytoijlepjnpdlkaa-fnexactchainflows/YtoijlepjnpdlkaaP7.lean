/- Contracts that the proof stands on, one behind the other. -/
import Derived.Test.YtoijlepjnpdlkaaP6
import Derived.Deep.AppendLies
/- A list of transitions that is being made: its cells in a row of its own, each of its lists in a block of its own. -/
namespace Go.Proofs.Ytoijlepjnpdlkaa
open Go.RowKit

theorem Ob.movedX {w w' : World} {a : Option Addr} {b n : Nat} {xs : List Int} (h : Ob w a b n xs) (hh : xs ≠ [] → w'.heap[b]? = w.heap[b]?) : Ob w' a b n xs := by
  rcases h with ⟨h1, h0 | ⟨e, cur, q1, q2, q3⟩⟩
  · exact ⟨h1, .inl h0⟩
  · by_cases hx : xs = []
    · subst hx; exact ⟨h1, .inl (by rw [← h1]; rfl)⟩
    · exact ⟨h1, .inr ⟨e, cur, (hh hx).trans q1, q2, q3⟩⟩

theorem Ob.ltX {w : World} {a : Option Addr} {b m : Nat} {X : List Int} (ho : Ob w a b m X) (hx : X ≠ []) : b < w.heap.size := by
  rcases ho with ⟨q, h0 | ⟨_, cur, hh, _⟩⟩
  · exact absurd (List.length_eq_zero_iff.mp (q.trans h0)) hx
  · exact (Array.getElem?_eq_some_iff.mp hh).1

/-- v is a slice of k transitions in a row of its own, whose lists are K. -/
structure Tris (w : World) (lo : Nat) (v : Value) (k : Nat) (K : List (List Int)) (cells : List Value) (A : Nat → Option Addr) (f cap : Nat → Nat) : Prop where
  len : K.length = 3 * k
  own : w.ownsRow lo 44 3 v k cells
  tri : ∀ j, j < 3 * k → cells[j]? = some (.slice (A j) (K.getD j []).length (cap j)) ∧ Ob w (A j) (f j) (K.getD j []).length (K.getD j []) ∧ (K.getD j [] ≠ [] → lo ≤ f j ∧ f j < w.heap.size ∧ v.ownBlock ≠ some (f j))
  apart : ∀ i j, i < j → j < 3 * k → K.getD i [] ≠ [] → K.getD j [] ≠ [] → f i ≠ f j

def TriX (w : World) (lo : Nat) (v : Value) (k : Nat) (K : List (List Int)) : Prop := ∃ cells A f cap, Tris w lo v k K cells A f cap

theorem TriX.nil (w : World) (lo : Nat) : TriX w lo (.slice none 0 0) 0 [] :=
  ⟨[], fun _ => none, fun _ => 0, fun _ => 0, rfl, ⟨rfl, .inl ⟨rfl, rfl⟩⟩, fun j hj => absurd hj (by omega), fun i j _ hj => absurd hj (by omega)⟩

/-- Where the blocks from lo on are as they were. -/
theorem TriX.high {w w' : World} {lo : Nat} {v : Value} {k : Nat} {K : List (List Int)} (h : TriX w lo v k K) (hh : ∀ q, lo ≤ q → q < w.heap.size → w'.heap[q]? = w.heap[q]?) (hs : w.heap.size ≤ w'.heap.size) : TriX w' lo v k K := by
  obtain ⟨cells, A, f, cap, h1, h2, h3, h4⟩ := h
  refine ⟨cells, A, f, cap, h1, ⟨h2.1, ?_⟩, fun j hj => ?_, h4⟩
  · rcases h2.2 with hn | ⟨g, cp, cur, e, hg, hq, r⟩
    · exact .inl hn
    · exact .inr ⟨g, cp, cur, e, hg, (hh g hg (Array.getElem?_eq_some_iff.mp hq).1).trans hq, r⟩
  · obtain ⟨q1, q2, q3⟩ := h3 j hj
    exact ⟨q1, q2.movedX fun hx => hh _ (q3 hx).1 (q3 hx).2.1, fun hx => ⟨(q3 hx).1, by have := (q3 hx).2.1; omega, (q3 hx).2.2⟩⟩

theorem TriX.grow {w w' : World} {lo : Nat} {v : Value} {k : Nat} {K : List (List Int)} (h : TriX w lo v k K) (hb : Below w.heap.size w w') : TriX w' lo v k K :=
  h.high (fun q _ hq => hb.block q hq) hb.size

theorem TriX.low {w : World} {lo : Nat} {v : Value} {k : Nat} {K : List (List Int)} (h : TriX w lo v k K) {b : Nat} (hb : b < lo) (o : Nat) (u : Value) : TriX (w.setCell ⟨b, o, none⟩ u) lo v k K :=
  h.high (fun q hq _ => Below.heap_setCell _ _ _ _ (by show q ≠ b; omega)) (by simp [World.setCell])

theorem getD_app {K N : List (List Int)} {j : Nat} : (K ++ N).getD j [] = if j < K.length then K.getD j [] else N.getD (j - K.length) [] := by
  simp only [List.getD_eq_getElem?_getD]
  split
  · rw [List.getElem?_append_left (by omega)]
  · rw [List.getElem?_append_right (by omega)]

theorem Tris.grow {w w' : World} {lo : Nat} {v : Value} {k : Nat} {K : List (List Int)} {cells : List Value} {A : Nat → Option Addr} {f cap : Nat → Nat} (h : Tris w lo v k K cells A f cap) (hb : Below w.heap.size w w') : Tris w' lo v k K cells A f cap := by
  refine ⟨h.len, ⟨h.own.1, ?_⟩, fun j hj => ?_, h.apart⟩
  · rcases h.own.2 with hn | ⟨g, cp, cur, e, hg, hq, r⟩
    · exact .inl hn
    · exact .inr ⟨g, cp, cur, e, hg, (hb.block g (Array.getElem?_eq_some_iff.mp hq).1).trans hq, r⟩
  · obtain ⟨q1, q2, q3⟩ := h.tri j hj
    exact ⟨q1, q2.grow hb, fun hx => ⟨(q3 hx).1, by have := (q3 hx).2.1; have := hb.size; omega, (q3 hx).2.2⟩⟩

/-- One transition more is appended: w is the world ahead of its lists, v3 the one behind them, W the one behind the append. -/
theorem Tris.push {w v3 W : World} {lo : Nat} {v : Value} {k : Nat} {K : List (List Int)} {cells : List Value} {A : Nat → Option Addr} {f cap : Nat → Nat} (h : Tris w lo v k K cells A f cap) (hb : Below w.heap.size w v3) (hlo : lo ≤ w.heap.size)
    {a0 a1 a2 : Option Addr} {b0 b1 b2 m0 m1 m2 c0 c1 c2 g cp : Nat} {X0 X1 X2 : List Int} (o0 : Ob v3 a0 b0 m0 X0) (o1 : Ob v3 a1 b1 m1 X1) (o2 : Ob v3 a2 b2 m2 X2)
    (g0 : X0 ≠ [] → w.heap.size ≤ b0) (g1 : X1 ≠ [] → w.heap.size ≤ b1) (g2 : X2 ≠ [] → w.heap.size ≤ b2)
    (d01 : X0 ≠ [] → X1 ≠ [] → b0 ≠ b1) (d02 : X0 ≠ [] → X2 ≠ [] → b0 ≠ b2) (d12 : X1 ≠ [] → X2 ≠ [] → b1 ≠ b2)
    (hown : W.ownsRow lo 44 3 (.slice (some ⟨g, 0, none⟩) (k + 1) cp) (k + 1) (cells ++ [.slice a0 m0 c0, .slice a1 m1 c1, .slice a2 m2 c2])) (hgr : v3.grownBy W v.ownBlock) (hl : v.ownBlock = some g ∨ g = v3.heap.size) :
    TriX W lo (.slice (some ⟨g, 0, none⟩) (k + 1) cp) (k + 1) (K ++ [X0, X1, X2]) := by
  have hob : ∀ q, v.ownBlock = some q → lo ≤ q ∧ q < w.heap.size := h.own.lt
  have hcl : cells.length = 3 * k := by have := h.own.1; omega
  have hkl := h.len
  have hgs := hgr.size
  have hbs := hb.size
  have hnew : ∀ {b : Nat}, w.heap.size ≤ b → b < v3.heap.size → some b ≠ v.ownBlock ∧ b ≠ g := by
    intro b hb1 hb2
    refine ⟨fun e => by have := hob b e.symm; omega, fun e => ?_⟩
    rcases hl with hl | hl
    · have := hob g hl; omega
    · omega
  have K0 : (K ++ [X0, X1, X2]).getD (3 * k) [] = X0 := by rw [getD_app, if_neg (by omega), hkl, Nat.sub_self]; rfl
  have K1 : (K ++ [X0, X1, X2]).getD (3 * k + 1) [] = X1 := by rw [getD_app, if_neg (by omega), hkl, show 3 * k + 1 - 3 * k = 1 by omega]; rfl
  have K2 : (K ++ [X0, X1, X2]).getD (3 * k + 2) [] = X2 := by rw [getD_app, if_neg (by omega), hkl, show 3 * k + 2 - 3 * k = 2 by omega]; rfl
  have Kold : ∀ j, j < 3 * k → (K ++ [X0, X1, X2]).getD j [] = K.getD j [] := fun j hj => by rw [getD_app, if_pos (by omega)]
  have one : ∀ {a : Option Addr} {b m : Nat} {X : List Int}, Ob v3 a b m X → (X ≠ [] → w.heap.size ≤ b) → Ob W a b m X ∧ (X ≠ [] → lo ≤ b ∧ b < W.heap.size ∧ (Value.slice (some ⟨g, 0, none⟩) (k + 1) cp).ownBlock ≠ some b) := by
    intro a b m X ho hge
    refine ⟨ho.movedX fun hx => ?_, fun hx => ?_⟩
    · have hlt := ho.ltX hx
      exact hgr.block b hlt (hnew (hge hx) hlt).1
    · have hlt := ho.ltX hx
      have := hge hx
      exact ⟨by omega, by omega, fun e => (hnew (hge hx) hlt).2 (by simpa [Value.ownBlock] using e.symm)⟩
  refine ⟨_, fun j => if j = 3 * k then a0 else if j = 3 * k + 1 then a1 else if j = 3 * k + 2 then a2 else A j, fun j => if j = 3 * k then b0 else if j = 3 * k + 1 then b1 else if j = 3 * k + 2 then b2 else f j, fun j => if j = 3 * k then c0 else if j = 3 * k + 1 then c1 else if j = 3 * k + 2 then c2 else cap j, by rw [List.length_append, hkl]; simp; omega, hown, fun j hj => ?_, fun i j hij hj hi0 hj0 => ?_⟩
  · by_cases j0 : j = 3 * k
    · subst j0
      simp only [if_true]
      rw [K0, o0.1]
      refine ⟨by rw [List.getElem?_append_right (by omega), hcl]; simp, (one o0 g0).1, (one o0 g0).2⟩
    · by_cases j1 : j = 3 * k + 1
      · subst j1
        simp only [if_neg j0, if_true]
        rw [K1, o1.1]
        refine ⟨by rw [List.getElem?_append_right (by omega), hcl]; simp [show 3 * k + 1 - 3 * k = 1 by omega], (one o1 g1).1, (one o1 g1).2⟩
      · by_cases j2 : j = 3 * k + 2
        · subst j2
          simp only [if_neg j0, if_neg j1, if_true]
          rw [K2, o2.1]
          refine ⟨by rw [List.getElem?_append_right (by omega), hcl]; simp [show 3 * k + 2 - 3 * k = 2 by omega], (one o2 g2).1, (one o2 g2).2⟩
        · simp only [if_neg j0, if_neg j1, if_neg j2]
          have hlt : j < 3 * k := by omega
          obtain ⟨q1, q2, q3⟩ := h.tri j hlt
          rw [Kold j hlt]
          refine ⟨by rw [List.getElem?_append_left (by omega)]; exact q1, (q2.grow hb).movedX fun hx => ?_, fun hx => ?_⟩
          · obtain ⟨r1, r2, r3⟩ := q3 hx
            exact hgr.block (f j) (by omega) (fun e => r3 e.symm)
          · obtain ⟨r1, r2, r3⟩ := q3 hx
            refine ⟨r1, by omega, fun e => ?_⟩
            have e' : g = f j := by simpa [Value.ownBlock] using e
            rcases hl with hl | hl
            · rw [e'] at hl; exact r3 hl
            · omega
  · have hfw : ∀ j, j < 3 * k → K.getD j [] ≠ [] → f j < w.heap.size := fun j hj hx => ((h.tri j hj).2.2 hx).2.1
    by_cases j0 : j = 3 * k
    · subst j0
      simp only [if_neg (show i ≠ 3 * k by omega), if_neg (show i ≠ 3 * k + 1 by omega), if_neg (show i ≠ 3 * k + 2 by omega), if_true]
      rw [Kold i hij] at hi0
      rw [K0] at hj0
      have := hfw i hij hi0; have := g0 hj0; omega
    · by_cases j1 : j = 3 * k + 1
      · subst j1
        simp only [if_neg j0, if_true]
        rw [K1] at hj0
        by_cases i0 : i = 3 * k
        · subst i0; simp only [if_true]; rw [K0] at hi0; exact d01 hi0 hj0
        · simp only [if_neg i0, if_neg (show i ≠ 3 * k + 1 by omega), if_neg (show i ≠ 3 * k + 2 by omega)]
          rw [Kold i (by omega)] at hi0
          have := hfw i (by omega) hi0; have := g1 hj0; omega
      · by_cases j2 : j = 3 * k + 2
        · subst j2
          simp only [if_neg j0, if_neg j1, if_true]
          rw [K2] at hj0
          by_cases i0 : i = 3 * k
          · subst i0; simp only [if_true]; rw [K0] at hi0; exact d02 hi0 hj0
          · by_cases i1 : i = 3 * k + 1
            · subst i1; simp only [if_neg i0, if_true]; rw [K1] at hi0; exact d12 hi0 hj0
            · simp only [if_neg i0, if_neg i1, if_neg (show i ≠ 3 * k + 2 by omega)]
              rw [Kold i (by omega)] at hi0
              have := hfw i (by omega) hi0; have := g2 hj0; omega
        · simp only [if_neg j0, if_neg j1, if_neg j2, if_neg (show i ≠ 3 * k by omega), if_neg (show i ≠ 3 * k + 1 by omega), if_neg (show i ≠ 3 * k + 2 by omega)]
          rw [Kold i (by omega)] at hi0
          rw [Kold j (by omega)] at hj0
          exact h.apart i j hij (by omega) hi0 hj0

/-- It can be read. -/
theorem TriX.lists {w : World} {lo : Nat} {v : Value} {k : Nat} {K : List (List Int)} (h : TriX w lo v k K) (hs : sizeN k K ≤ 1048576) : ∃ a c, v = .slice a k c ∧ Lists w a (3 * k) K := by
  obtain ⟨cells, A, f, cap, h1, h2, h3, h4⟩ := h
  have hcl : cells.length = 3 * k := by have := h2.1; omega
  rcases h2.2 with ⟨e, h0⟩ | ⟨g, cp, cur, e, hg, hh, _, _, hsz, htk⟩
  · subst h0
    exact ⟨none, 0, e, h1, .inl rfl⟩
  · refine ⟨_, cp, e, h1, .inr ⟨g, 0, rfl, (Array.getElem?_eq_some_iff.mp hh).1, fun j hj => ?_⟩⟩
    obtain ⟨q1, q2, q3⟩ := h3 j hj
    have hlen := len_le K j
    refine ⟨A j, (K.getD j []).length, cap j, ?_, ?_, q2.row⟩
    · rw [cell_of_row w g (0 + j) cur _ _ hh, Nat.zero_add]
      have e2 : (cur.toList.take (k * 3))[j]? = cells[j]? := by rw [htk]
      rw [List.getElem?_take_of_lt (by omega), Array.getElem?_toList] at e2
      rw [e2, q1]
    · unfold sizeN at hs; unfold maxLen; omega

/-- It can be marked. -/
theorem TriX.netG {w : World} {lo : Nat} {v : Value} {k : Nat} {K : List (List Int)} (h : TriX w lo v k K) : ∃ a B c, v = .slice a k c ∧ (k = 0 ∨ (lo ≤ B ∧ B < w.heap.size)) ∧ NetG w a B lo w.heap.size k (fun j => K.getD j []) := by
  obtain ⟨cells, A, f, cap, h1, h2, h3, h4⟩ := h
  have hcl : cells.length = 3 * k := by have := h2.1; omega
  rcases h2.2 with ⟨e, h0⟩ | ⟨g, cp, cur, e, hg, hh, hc1, _, hsz, htk⟩
  · subst h0
    exact ⟨none, 0, 0, e, .inl rfl, .inl rfl⟩
  · refine ⟨_, g, cp, e, .inr ⟨hg, (Array.getElem?_eq_some_iff.mp hh).1⟩, .inr ⟨rfl, cur, A, f, cap, hh, by omega, fun j hj => ?_, h4⟩⟩
    obtain ⟨q1, q2, q3⟩ := h3 j hj
    refine ⟨?_, q2, fun hx => ⟨(q3 hx).1, (q3 hx).2.1, fun e2 => (q3 hx).2.2 (by rw [e, e2]; rfl)⟩⟩
    have e2 : (cur.toList.take (k * 3))[j]? = cells[j]? := by rw [htk]
    rw [List.getElem?_take_of_lt (by omega), Array.getElem?_toList] at e2
    rw [e2, q1]

/-- What was made with make and filled. -/
theorem TriX.made {w : World} {B lo n : Nat} {K : List (List Int)} {C : Array Value} {A : Nat → Option Addr} {f cap : Nat → Nat} (hl : K.length = 3 * n) (hh : w.heap[B]? = some (.cells C 44 (0, 0))) (hC : C.size = n * 3) (hB : lo ≤ B) (hn : n ≤ maxLen)
    (h3 : ∀ j, j < 3 * n → C[j]? = some (.slice (A j) (K.getD j []).length (cap j)) ∧ Ob w (A j) (f j) (K.getD j []).length (K.getD j []) ∧ (K.getD j [] ≠ [] → lo ≤ f j ∧ f j < w.heap.size ∧ f j ≠ B)) (h4 : ∀ i j, i < j → j < 3 * n → K.getD i [] ≠ [] → K.getD j [] ≠ [] → f i ≠ f j) :
    TriX w lo (.slice (some ⟨B, 0, none⟩) n n) n K := by
  refine ⟨C.toList, A, f, cap, hl, ⟨by simp [hC], .inr ⟨B, n, C, rfl, hB, hh, Nat.le_refl _, hn, hC, by rw [List.take_of_length_le (by simp [hC])]⟩⟩, fun j hj => ?_, h4⟩
  obtain ⟨q1, q2, q3⟩ := h3 j hj
  exact ⟨by rw [Array.getElem?_toList]; exact q1, q2, fun hx => ⟨(q3 hx).1, (q3 hx).2.1, fun e => (q3 hx).2.2 (by simpa [Value.ownBlock] using e.symm)⟩⟩
end Go.Proofs.Ytoijlepjnpdlkaa


/- lists of a step and of a net of steps: sets of places as lists again. -/
namespace Go.Proofs.Ytoijlepjnpdlkaa
open Go.RowKit
set_option maxRecDepth 10000

/-- How lists of a step ends. -/
def LiEnd (X0 X1 X2 : List Int) (w : World) (e : Ending) (w' : World) : Prop :=
  ∃ a0 b0 m0 c0 a1 b1 m1 c1 a2 b2 m2 c2, e = .returned (.agg #[.slice a0 m0 c0, .slice a1 m1 c1, .slice a2 m2 c2]) ∧ Ob w' a0 b0 m0 X0 ∧ Ob w' a1 b1 m1 X1 ∧ Ob w' a2 b2 m2 X2 ∧
    w.heap.size ≤ b0 ∧ w.heap.size ≤ b1 ∧ w.heap.size ≤ b2 ∧ (X0 ≠ [] → X1 ≠ [] → b0 ≠ b1) ∧ (X0 ≠ [] → X2 ≠ [] → b0 ≠ b2) ∧ (X1 ≠ [] → X2 ≠ [] → b1 ≠ b2) ∧ Below w.heap.size w w'

theorem Ob.setRowX {w : World} {a : Option Addr} {b n g : Nat} {xs : List Int} (h : Ob w a b n xs) (hg : b ≠ g) (D : Array Value) : Ob (w.setRow g D) a b n xs :=
  h.movedX fun _ => setRow_otherW w hg D

set_option maxHeartbeats 2000000 in
theorem stepLists_any (s0 s1 s2 : Nat) (w : World) (h0 : s0 < 2 ^ 16) (h1 : s1 < 2 ^ 16) (h2 : s2 < 2 ^ 16) :
    Calls Try.prog 37 #[.agg #[.int .u16 (s0 : Int), .int .u16 (s1 : Int), .int .u16 (s2 : Int)]] w fun e w' => LiEnd (nums2 s0.testBit 16) (nums2 s1.testBit 16) (nums2 s2.testBit 16) w e w' := by
  have HB0 := hide (below_two w (.cells #[.int .u16 (s0 : Int), .int .u16 (s1 : Int), .int .u16 (s2 : Int)] 58) (.cells #[.slice none 0 0, .slice none 0 0, .slice none 0 0] 44))
  have HX := hide (keep (heap_alloc_new w (.cells #[.int .u16 (s0 : Int), .int .u16 (s1 : Int), .int .u16 (s2 : Int)] 58)) (below_al _ (.cells #[.slice none 0 0, .slice none 0 0, .slice none 0 0] 44)))
  have hy := heap_alloc_new (w.alloc (.cells #[.int .u16 (s0 : Int), .int .u16 (s1 : Int), .int .u16 (s2 : Int)] 58)) (.cells #[.slice none 0 0, .slice none 0 0, .slice none 0 0] 44)
  rw [show (w.alloc (.cells #[.int .u16 (s0 : Int), .int .u16 (s1 : Int), .int .u16 (s2 : Int)] 58)).heap.size = w.heap.size + 1 by simp] at hy
  have HY := hide hy
  have HLs0 := hide (fun W => setList_any s0 W h0)
  have HLs1 := hide (fun W => setList_any s1 W h1)
  have HLs2 := hide (fun W => setList_any s2 W h2)
  have hz : ((w.alloc (.cells #[.int .u16 (s0 : Int), .int .u16 (s1 : Int), .int .u16 (s2 : Int)] 58)).alloc (.cells #[.slice none 0 0, .slice none 0 0, .slice none 0 0] 44)).heap.size = w.heap.size + 1 + 1 := by simp
  clear hy
  go_enter Try.func37, Try.ntmps37
  go_wp2_with fail
  obtain ⟨V, hV⟩ : ∃ V, Hid ((w.alloc (.cells #[.int .u16 (s0 : Int), .int .u16 (s1 : Int), .int .u16 (s2 : Int)] 58)).alloc (.cells #[.slice none 0 0, .slice none 0 0, .slice none 0 0] 44) = V) := ⟨_, rfl⟩
  rw [hV.out] at HX HY HB0 hz ⊢
  have HZ := hide hz
  clear hV hz
  refine wp_region_held_drew (S := fun W => W.cell? ⟨w.heap.size, 0, none⟩ = some (.int .u16 (s0 : Int)) ∧ W.cell? ⟨w.heap.size, 1, none⟩ = some (.int .u16 (s1 : Int)) ∧ W.cell? ⟨w.heap.size, 2, none⟩ = some (.int .u16 (s2 : Int))) (by kernel_rfl) ?_ (fun hHeld => ?_)
  · exact cells3W (keep HX.out (Below.refl _ V).drew)
  refine take_yes (i := 0) (some 3) (.pointer (some ⟨w.heap.size, 0, none⟩)) rfl rfl (by kernel_rfl) (by kernel_rfl) (by kernel_rfl) (fun _ _ _ h => h) (by rfl) ?_ (by assumption) ?_
  · intro W hSw
    obtain ⟨hz0, hz1, hz2⟩ := hSw
    go_simp
  simp only [Act.put, List.setIfInBounds_toArray, List.set_cons_zero, List.set_cons_succ]
  refine take_yes (i := 1) (some 4) (.int .u16 (s0 : Int)) rfl rfl (by kernel_rfl) (by kernel_rfl) (by kernel_rfl) (fun _ _ _ h => h) (by rfl) ?_ (by assumption) ?_
  · intro W hSw
    obtain ⟨hz0, hz1, hz2⟩ := hSw
    go_simp
  simp only [Act.put, List.setIfInBounds_toArray, List.set_cons_zero, List.set_cons_succ]
  refine take_yes (i := 3) (some 6) (.pointer (some ⟨w.heap.size, 1, none⟩)) rfl rfl (by kernel_rfl) (by kernel_rfl) (by kernel_rfl) (fun _ _ _ h => h) (by rfl) ?_ (by assumption) ?_
  · intro W hSw
    obtain ⟨hz0, hz1, hz2⟩ := hSw
    go_simp
  simp only [Act.put, List.setIfInBounds_toArray, List.set_cons_zero, List.set_cons_succ]
  refine take_yes (i := 4) (some 7) (.int .u16 (s1 : Int)) rfl rfl (by kernel_rfl) (by kernel_rfl) (by kernel_rfl) (fun _ _ _ h => h) (by rfl) ?_ (by assumption) ?_
  · intro W hSw
    obtain ⟨hz0, hz1, hz2⟩ := hSw
    go_simp
  simp only [Act.put, List.setIfInBounds_toArray, List.set_cons_zero, List.set_cons_succ]
  refine take_yes (i := 6) (some 9) (.pointer (some ⟨w.heap.size, 2, none⟩)) rfl rfl (by kernel_rfl) (by kernel_rfl) (by kernel_rfl) (fun _ _ _ h => h) (by rfl) ?_ (by assumption) ?_
  · intro W hSw
    obtain ⟨hz0, hz1, hz2⟩ := hSw
    go_simp
  simp only [Act.put, List.setIfInBounds_toArray, List.set_cons_zero, List.set_cons_succ]
  refine take_yes (i := 7) (some 10) (.int .u16 (s2 : Int)) rfl rfl (by kernel_rfl) (by kernel_rfl) (by kernel_rfl) (fun _ _ _ h => h) (by rfl) ?_ (by assumption) ?_
  · intro W hSw
    obtain ⟨hz0, hz1, hz2⟩ := hSw
    go_simp
  simp only [Act.put, List.setIfInBounds_toArray, List.set_cons_zero, List.set_cons_succ]
  refine call_next (i := 2) (some 5) rfl rfl (by kernel_rfl) (by rfl) 58 _ _ _ rfl Try.func58 (by decide) rfl #[.int .u16 (s0 : Int)] (mapw1 _ _ _ rfl) _ (HLs0.out _) ?_
  rintro e v1 ⟨a0, b0, m0, c0, rfl, g0, o0, hb1⟩
  refine ⟨_, rfl, ?_, fun hHeld => ?_⟩
  · exact cells3W (keep (keep HX.out (Below.refl _ V).drew) hb1)
  simp only [Act.put, List.setIfInBounds_toArray, List.set_cons_zero, List.set_cons_succ]
  refine call_next (i := 5) (some 8) rfl rfl (by kernel_rfl) (by rfl) 58 _ _ _ rfl Try.func58 (by decide) rfl #[.int .u16 (s1 : Int)] (mapw1 _ _ _ rfl) _ (HLs1.out _) ?_
  rintro e v2 ⟨a1, b1, m1, c1, rfl, g1, o1, hb2⟩
  refine ⟨_, rfl, ?_, fun hHeld => ?_⟩
  · exact cells3W (keep (keep (keep HX.out (Below.refl _ V).drew) hb1) hb2)
  simp only [Act.put, List.setIfInBounds_toArray, List.set_cons_zero, List.set_cons_succ]
  refine call_next (i := 8) (some 11) rfl rfl (by kernel_rfl) (by rfl) 58 _ _ _ rfl Try.func58 (by decide) rfl #[.int .u16 (s2 : Int)] (mapw1 _ _ _ rfl) _ (HLs2.out _) ?_
  rintro e v3 ⟨a2, b2, m2, c2, rfl, g2, o2, hb3⟩
  refine ⟨_, rfl, ?_, fun hHeld => ?_⟩
  · exact cells3W (keep (keep (keep (keep HX.out (Below.refl _ V).drew) hb1) hb2) hb3)
  simp only [Act.put, List.setIfInBounds_toArray, List.set_cons_zero, List.set_cons_succ]
  refine take_yes (i := 9) (some 12) (.agg #[.slice a0 m0 c0, .slice a1 m1 c1, .slice a2 m2 c2]) rfl rfl (by kernel_rfl) (by kernel_rfl) (by kernel_rfl) (fun _ _ _ h => h) (by rfl) ?_ (by assumption) ?_
  · intro W hSw
    obtain ⟨hz0, hz1, hz2⟩ := hSw
    go_simp
  simp only [Act.put, List.setIfInBounds_toArray, List.set_cons_zero, List.set_cons_succ]
  have HY3 := hide (keep (keep (keep (keep HY.out (Below.refl _ V).drew) hb1) hb2) hb3)
  refine store_next (i := 10) rfl rfl (by kernel_rfl) (by rfl) 44 _ _ rfl (w.heap.size + 1) #[.slice a0 m0 c0, .slice a1 m1 c1, .slice a2 m2 c2] rfl rfl 44 _ HY3.out Try.size44 rfl (by simp [Value.oneCell']) ?_ (fun hHeld => ?_)
  · exact cells3W ((setRow_otherW _ (by omega) _).trans (keep (keep (keep (keep HX.out (Below.refl _ V).drew) hb1) hb2) hb3))
  refine wpAnyH_done (by kernel_rfl) ?_ _
  obtain ⟨hr0, hr1, hr2⟩ := cells3W (setRow_sameW HY3.out #[.slice a0 m0 c0, .slice a1 m1 c1, .slice a2 m2 c2])
  have HBX := hide (below_setRow (HB0.out.drew.trans ((hb1.trans ((hb2.trans (hb3.mono hb2.size)).mono hb1.size)).mono HB0.out.drew.size)) (w.heap.size + 1) (by omega) #[.slice a0 m0 c0, .slice a1 m1 c1, .slice a2 m2 c2])
  have z0 := HZ.out
  have z1 : V.drew.heap.size = V.heap.size := rfl
  have z2 := hb1.size
  have z3 := hb2.size
  have z4 := hb3.size
  have HE : Hid (LiEnd (nums2 s0.testBit 16) (nums2 s1.testBit 16) (nums2 s2.testBit 16) w (.returned (.agg #[.slice a0 m0 c0, .slice a1 m1 c1, .slice a2 m2 c2])) (v3.setRow (w.heap.size + 1) #[.slice a0 m0 c0, .slice a1 m1 c1, .slice a2 m2 c2])) :=
    ⟨a0, b0, m0, c0, a1, b1, m1, c1, a2, b2, m2, c2, rfl, ((o0.grow hb2).grow hb3).setRowX (by omega) _, (o1.grow hb3).setRowX (by omega) _, o2.setRowX (by omega) _, by omega, by omega, by omega, fun hx _ => by have := o0.ltX hx; omega, fun hx _ => by have := o0.ltX hx; omega, fun hx _ => by have := o1.ltX hx; omega, HBX.out⟩
  clear o0 o1 o2 g0 g1 g2 hb1 hb2 hb3 hHeld z0 z1 z2 z3 z4
  go_wp2_with fail
  refine bodyPost_ret (v := .agg #[.slice a0 m0 c0, .slice a1 m1 c1, .slice a2 m2 c2]) (by simp [results, Try.results37, go_sem, hr0, hr1, hr2]) rfl ?_
  exact HE.out
end Go.Proofs.Ytoijlepjnpdlkaa


/- lists of a net of steps. -/
namespace Go.Proofs.Ytoijlepjnpdlkaa
open Go.RowKit
set_option maxRecDepth 10000

/-- What the loop of lists keeps in mind. -/
structure FiInv (w3 wr : World) (V M : Nat) (p : Int) (n k : Nat) (L : List (List Int)) : Prop where
  var : wr.heap[V]? = some (.cells #[.int .i64 p, .slice (some ⟨M, 0, none⟩) n n] 30 (0, 0))
  fil : ∃ (C : Array Value) (A : Nat → Option Addr) (f cap : Nat → Nat), wr.heap[M]? = some (.cells C 44 (0, 0)) ∧ C.size = n * 3 ∧
    (∀ j, j < 3 * k → C[j]? = some (.slice (A j) (L.getD j []).length (cap j)) ∧ Ob wr (A j) (f j) (L.getD j []).length (L.getD j []) ∧ (L.getD j [] ≠ [] → w3.heap.size ≤ f j ∧ f j < wr.heap.size ∧ f j ≠ M)) ∧
    (∀ i j, i < j → j < 3 * k → L.getD i [] ≠ [] → L.getD j [] ≠ [] → f i ≠ f j)
  bel : Below w3.heap.size w3 wr
  ne : V ≠ M
  hV : w3.heap.size ≤ V
  hM : w3.heap.size ≤ M

theorem FiInv.grow {w3 wr v : World} {V M : Nat} {p : Int} {n k : Nat} {L : List (List Int)} (h : FiInv w3 wr V M p n k L) (hb : Below wr.heap.size wr v) : FiInv w3 v V M p n k L := by
  obtain ⟨C, A, f, cap, h1, h2, h3, h4⟩ := h.fil
  refine ⟨keep h.var hb, ⟨C, A, f, cap, keep h1 hb, h2, fun j hj => ?_, h4⟩, h.bel.trans (hb.mono h.bel.size), h.ne, h.hV, h.hM⟩
  obtain ⟨q1, q2, q3⟩ := h3 j hj
  exact ⟨q1, q2.grow hb, fun hx => ⟨(q3 hx).1, by have := (q3 hx).2.1; have := hb.size; omega, (q3 hx).2.2⟩⟩

theorem FiInv.ltM {w3 wr : World} {V M : Nat} {p : Int} {n k : Nat} {L : List (List Int)} (h : FiInv w3 wr V M p n k L) : M < wr.heap.size := by
  obtain ⟨C, A, f, cap, h1, _⟩ := h.fil
  exact (Array.getElem?_eq_some_iff.mp h1).1

theorem FiInv.there {w3 wr : World} {V M : Nat} {p : Int} {n k : Nat} {L : List (List Int)} (h : FiInv w3 wr V M p n k L) {i : Nat} (hi : i < n) : wr.there M (i * 3) 3 := by
  obtain ⟨C, A, f, cap, h1, h2, _⟩ := h.fil
  exact there_of_row h1 (by omega)

theorem FiInv.step {w3 wr v1 : World} {V M : Nat} {p : Int} {n k : Nat} {L : List (List Int)} (h : FiInv w3 wr V M p n k L) (hk : k < n) {a0 a1 a2 : Option Addr} {b0 b1 b2 m0 m1 m2 c0 c1 c2 : Nat} {X0 X1 X2 : List Int}
    (hb : Below wr.heap.size wr v1) (o0 : Ob v1 a0 b0 m0 X0) (o1 : Ob v1 a1 b1 m1 X1) (o2 : Ob v1 a2 b2 m2 X2) (g0 : wr.heap.size ≤ b0) (g1 : wr.heap.size ≤ b1) (g2 : wr.heap.size ≤ b2)
    (d01 : X0 ≠ [] → X1 ≠ [] → b0 ≠ b1) (d02 : X0 ≠ [] → X2 ≠ [] → b0 ≠ b2) (d12 : X1 ≠ [] → X2 ≠ [] → b1 ≠ b2) (e0 : X0 = L.getD (3 * k) []) (e1 : X1 = L.getD (3 * k + 1) []) (e2 : X2 = L.getD (3 * k + 2) []) :
    FiInv w3 (v1.setCells M (k * 3) [.slice a0 m0 c0, .slice a1 m1 c1, .slice a2 m2 c2]) V M p n (k + 1) L := by
  have hM := h.ltM
  have hbs := hb.size
  have h' := h.grow hb
  obtain ⟨C, A, f, cap, h1, h2, h3, h4⟩ := h'.fil
  have hf : ∀ j, j < 3 * k → L.getD j [] ≠ [] → f j < wr.heap.size := by
    obtain ⟨C', A', f', cap', q1, q2, q3, q4⟩ := h.fil
    intro j hj hx
    obtain ⟨r1, r2, r3⟩ := h3 j hj
    obtain ⟨s1, s2, s3⟩ := q3 j hj
    have hC : C = C' := by
      have := keep q1 hb
      rw [h1] at this
      simpa using this
    have hA : A j = A' j := by
      rw [hC, s1] at r1
      simp at r1
      exact r1.1.symm
    rcases r2.2 with h0 | ⟨ea, _⟩
    · exact absurd (List.length_eq_zero_iff.mp h0) hx
    · rcases s2.2 with h0 | ⟨eb, _⟩
      · exact absurd (List.length_eq_zero_iff.mp h0) hx
      · rw [hA, eb] at ea
        simp at ea
        have := (s3 hx).2.1
        omega
  have hset : ∀ q, q ≠ M → (v1.setCells M (k * 3) [.slice a0 m0 c0, .slice a1 m1 c1, .slice a2 m2 c2]).heap[q]? = v1.heap[q]? := fun q hq => heap_set3_other _ _ _ _ _ _ _ hq
  have hsz := size_set3 v1 M (k * 3) (.slice a0 m0 c0) (.slice a1 m1 c1) (.slice a2 m2 c2)
  refine ⟨(hset V h.ne).trans h'.var, ⟨_, fun j => if j = 3 * k then a0 else if j = 3 * k + 1 then a1 else if j = 3 * k + 2 then a2 else A j, fun j => if j = 3 * k then b0 else if j = 3 * k + 1 then b1 else if j = 3 * k + 2 then b2 else f j, fun j => if j = 3 * k then c0 else if j = 3 * k + 1 then c1 else if j = 3 * k + 2 then c2 else cap j, heap_set3_same h1 _ _ _, by simp [h2], fun j hj => ?_, fun i j hij hj hi0 hj0 => ?_⟩, below_set3 h'.bel h.hM _ _ _ _, h.ne, h.hV, h.hM⟩
  · rw [hsz]
    have hbl := h.bel.size
    by_cases j0 : j = 3 * k
    · subst j0
      simp only [if_true]
      rw [← e0, o0.1]
      refine ⟨?_, o0.movedX fun _ => hset _ (by omega), fun hx => ⟨by omega, o0.ltX hx, by omega⟩⟩
      rw [Array.getElem?_setIfInBounds_ne (by omega), Array.getElem?_setIfInBounds_ne (by omega), Array.getElem?_setIfInBounds, if_pos (by omega), if_pos (by omega)]
    · by_cases j1 : j = 3 * k + 1
      · subst j1
        simp only [if_neg j0, if_true]
        rw [← e1, o1.1]
        refine ⟨?_, o1.movedX fun _ => hset _ (by omega), fun hx => ⟨by omega, o1.ltX hx, by omega⟩⟩
        rw [Array.getElem?_setIfInBounds_ne (by omega), Array.getElem?_setIfInBounds, if_pos (by omega), if_pos (by simp; omega)]
      · by_cases j2 : j = 3 * k + 2
        · subst j2
          simp only [if_neg j0, if_neg j1, if_true]
          rw [← e2, o2.1]
          refine ⟨?_, o2.movedX fun _ => hset _ (by omega), fun hx => ⟨by omega, o2.ltX hx, by omega⟩⟩
          rw [Array.getElem?_setIfInBounds, if_pos (by omega), if_pos (by simp; omega)]
        · simp only [if_neg j0, if_neg j1, if_neg j2]
          obtain ⟨q1, q2, q3⟩ := h3 j (by omega)
          refine ⟨?_, q2.movedX fun hx => hset _ (q3 hx).2.2, q3⟩
          rw [Array.getElem?_setIfInBounds_ne (by omega), Array.getElem?_setIfInBounds_ne (by omega), Array.getElem?_setIfInBounds_ne (by omega)]
          exact q1
  · by_cases j0 : j = 3 * k
    · subst j0
      simp only [if_neg (show i ≠ 3 * k by omega), if_neg (show i ≠ 3 * k + 1 by omega), if_neg (show i ≠ 3 * k + 2 by omega), if_true]
      have := hf i hij hi0; omega
    · by_cases j1 : j = 3 * k + 1
      · subst j1
        simp only [if_neg j0, if_true]
        by_cases i0 : i = 3 * k
        · subst i0; simp only [if_true]; rw [← e0] at hi0; rw [← e1] at hj0; exact d01 hi0 hj0
        · simp only [if_neg i0, if_neg (show i ≠ 3 * k + 1 by omega), if_neg (show i ≠ 3 * k + 2 by omega)]
          have := hf i (by omega) hi0; omega
      · by_cases j2 : j = 3 * k + 2
        · subst j2
          simp only [if_neg j0, if_neg j1, if_true]
          by_cases i0 : i = 3 * k
          · subst i0; simp only [if_true]; rw [← e0] at hi0; rw [← e2] at hj0; exact d02 hi0 hj0
          · by_cases i1 : i = 3 * k + 1
            · subst i1; simp only [if_neg i0, if_true]; rw [← e1] at hi0; rw [← e2] at hj0; exact d12 hi0 hj0
            · simp only [if_neg i0, if_neg i1, if_neg (show i ≠ 3 * k + 2 by omega)]
              have := hf i (by omega) hi0; omega
        · simp only [if_neg j0, if_neg j1, if_neg j2, if_neg (show i ≠ 3 * k by omega), if_neg (show i ≠ 3 * k + 1 by omega), if_neg (show i ≠ 3 * k + 2 by omega)]
          exact h4 i j hij (by omega) hi0 hj0

theorem FiInv.first {w3 wr : World} {V M : Nat} {p : Int} {n : Nat} (L : List (List Int)) {C : Array Value} (hv : wr.heap[V]? = some (.cells #[.int .i64 p, .slice (some ⟨M, 0, none⟩) n n] 30 (0, 0))) (hm : wr.heap[M]? = some (.cells C 44 (0, 0))) (hC : C.size = n * 3) (hb : Below w3.heap.size w3 wr) (ne : V ≠ M) (hV : w3.heap.size ≤ V) (hM : w3.heap.size ≤ M) : FiInv w3 wr V M p n 0 L :=
  ⟨hv, ⟨C, fun _ => none, fun _ => 0, fun _ => 0, hm, hC, fun j hj => absurd hj (by omega), fun i j _ hj => absurd hj (by omega)⟩, hb, ne, hV, hM⟩

theorem TriX.lower {w : World} {lo lo' : Nat} {v : Value} {k : Nat} {K : List (List Int)} (h : TriX w lo v k K) (hl : lo' ≤ lo) : TriX w lo' v k K := by
  obtain ⟨cells, A, f, cap, h1, h2, h3, h4⟩ := h
  refine ⟨cells, A, f, cap, h1, ⟨h2.1, ?_⟩, fun j hj => ?_, h4⟩
  · rcases h2.2 with hn | ⟨g, cp, cur, e, hg, r⟩
    · exact .inl hn
    · exact .inr ⟨g, cp, cur, e, by omega, r⟩
  · obtain ⟨q1, q2, q3⟩ := h3 j hj
    exact ⟨q1, q2, fun hx => ⟨by have := (q3 hx).1; omega, (q3 hx).2⟩⟩

/-- A cell of a block of another kind is written. -/
theorem TriX.other {w : World} {lo : Nat} {v : Value} {k : Nat} {K : List (List Int)} (h : TriX w lo v k K) {b : Nat} {D : Array Value} {T : TypeId} (hb : w.heap[b]? = some (.cells D T (0, 0))) (h1 : T ≠ 3) (h2 : T ≠ 44) (o : Nat) (u : Value) : TriX (w.setCell ⟨b, o, none⟩ u) lo v k K := by
  have key : ∀ (q : Nat) (C : Array Value) (T' : TypeId), w.heap[q]? = some (Obj.cells C T' (0, 0)) → T' ≠ T → (w.setCell ⟨b, o, none⟩ u).heap[q]? = w.heap[q]? := by
    intro q C T' hq hT
    by_cases e : q = b
    · subst e
      rw [hb] at hq
      simp at hq
      exact absurd hq.2.symm hT
    · exact Below.heap_setCell _ _ _ _ e
  obtain ⟨cells, A, f, cap, q1, q2, q3, q4⟩ := h
  refine ⟨cells, A, f, cap, q1, ⟨q2.1, ?_⟩, fun j hj => ?_, q4⟩
  · rcases q2.2 with hn | ⟨g, cp, cur, e, hg, hq, r⟩
    · exact .inl hn
    · exact .inr ⟨g, cp, cur, e, hg, (key g _ _ hq (fun e => h2 e.symm)).trans hq, r⟩
  · obtain ⟨r1, r2, r3⟩ := q3 j hj
    refine ⟨r1, ?_, fun hx => ⟨(r3 hx).1, by have := (r3 hx).2.1; simpa [World.setCell] using this, (r3 hx).2.2⟩⟩
    rcases r2 with ⟨s1, h0 | ⟨e, cur, t1, t2, t3⟩⟩
    · exact ⟨s1, .inl h0⟩
    · exact ⟨s1, .inr ⟨e, cur, (key _ _ _ t1 (fun e => h1 e.symm)).trans t1, t2, t3⟩⟩

/-- How lists of a net of steps ends. -/
def NlEnd (p : Int) (n : Nat) (L : List (List Int)) (w : World) (e : Ending) (w' : World) : Prop :=
  ∃ M, e = .returned (.agg #[.int .i64 p, .slice (some ⟨M, 0, none⟩) n n]) ∧ TriX w' w.heap.size (.slice (some ⟨M, 0, none⟩) n n) n L ∧ Below w.heap.size w w'

theorem setsX {p : Int} {n k : Nat} {L : List (List Int)} (h : netOk p n L = true) (hk : k < n) : nums2 (maskL (L.getD (3 * k) [])).testBit 16 = L.getD (3 * k) [] ∧ nums2 (maskL (L.getD (3 * k + 1) [])).testBit 16 = L.getD (3 * k + 1) [] ∧ nums2 (maskL (L.getD (3 * k + 2) [])).testBit 16 = L.getD (3 * k + 2) [] := by
  obtain ⟨hp, _, h3⟩ := netOk_parts h
  obtain ⟨r0, r1, r2⟩ := tri3_rise (h3 k hk)
  exact ⟨nums2_mask hp.2 r0, nums2_mask hp.2 r1, nums2_mask hp.2 r2⟩

/-- The bits of n transitions at the head of a block. -/
def PartX (w : World) (B n : Nat) (L : List (List Int)) : Prop :=
  ∃ C : Array Value, w.heap[B]? = some (.cells C 58 (0, 0)) ∧ 3 * n ≤ C.size ∧ ∀ j, j < 3 * n → C[j]? = some (.int .u16 (maskL (L.getD j []) : Int))

theorem PartS.toX {w : World} {B n : Nat} {L : List (List Int)} (h : PartS w B (3 * n) (3 * n) L) : PartX w B n L := by
  obtain ⟨C, h1, h2, h3⟩ := h
  exact ⟨C, h1, by omega, h3⟩

theorem PartX.grow {w w' : World} {B n : Nat} {L : List (List Int)} (h : PartX w B n L) (hb : Below w.heap.size w w') : PartX w' B n L := by
  obtain ⟨C, h1, h2, h3⟩ := h
  exact ⟨C, keep h1 hb, h2, h3⟩

theorem PartX.at3X {w : World} {B n k : Nat} {L : List (List Int)} (h : PartX w B n L) (hk : k < n) :
    w.cell? ⟨B, k * 3, none⟩ = some (.int .u16 (maskL (L.getD (3 * k) []) : Int)) ∧ w.cell? ⟨B, k * 3 + 1, none⟩ = some (.int .u16 (maskL (L.getD (3 * k + 1) []) : Int)) ∧ w.cell? ⟨B, k * 3 + 2, none⟩ = some (.int .u16 (maskL (L.getD (3 * k + 2) []) : Int)) := by
  obtain ⟨C, h1, h2, h3⟩ := h
  refine ⟨?_, ?_, ?_⟩
  · rw [cell_of_row w B _ C _ _ h1, Nat.mul_comm]; exact h3 _ (by omega)
  · rw [cell_of_row w B _ C _ _ h1, Nat.mul_comm]; exact h3 _ (by omega)
  · rw [cell_of_row w B _ C _ _ h1, Nat.mul_comm]; exact h3 _ (by omega)

set_option maxHeartbeats 4000000 in
theorem netLists_any (p : Int) (B n cB : Nat) (L : List (List Int)) (w : World) (h : PartX w B n L) (hg : netOk p n L = true) (hl : L.length = 3 * n) :
    Calls Try.prog 19 #[.agg #[.int .i64 p, .slice (some ⟨B, 0, none⟩) n cB]] w fun e w' => NlEnd p n L w e w' := by
  have hn24 := (netOk_parts hg).2.1
  have HG := hide hg
  have HP := hide h
  have HL := hide hl
  have HB0 := hide (below_two w (.cells #[.int .i64 p, .slice (some ⟨B, 0, none⟩) n cB] 49) (.cells #[.int .i64 0, .slice none 0 0] 30))
  have hmk := run_make_many (P := Try.prog) 28 44 _ 3 72 Try.underlying28 Try.info44 .i64 .i64 n (by omega) (by omega)
  simp only [Value.cells] at hmk
  clear h hg hl
  go_enter Try.func19, Try.ntmps19
  go_wp2_with fail
  go_region
  all_goals go_wp2_with fail
  · have HI : Hid (FiInv ((w.alloc (.cells #[.int .i64 p, .slice (some ⟨B, 0, none⟩) n cB] 49)).alloc (.cells #[.int .i64 0, .slice none 0 0] 30)) ((((w.alloc (.cells #[.int .i64 p, .slice (some ⟨B, 0, none⟩) n cB] 49)).alloc (.cells #[.int .i64 0, .slice none 0 0] 30)).alloc (.cells (madeCells #[.slice none 0 0, .slice none 0 0, .slice none 0 0] (n * 3)) 44)).alloc (.cells #[.int .i64 p, .slice (some ⟨w.heap.size + 1 + 1, 0, none⟩) n n] 30)).drew (w.heap.size + 1 + 1 + 1) (w.heap.size + 1 + 1) p n 0 L) := by
      have z2 : ((w.alloc (.cells #[.int .i64 p, .slice (some ⟨B, 0, none⟩) n cB] 49)).alloc (.cells #[.int .i64 0, .slice none 0 0] 30)).heap.size = w.heap.size + 1 + 1 := by simp
      have z3 : (((w.alloc (.cells #[.int .i64 p, .slice (some ⟨B, 0, none⟩) n cB] 49)).alloc (.cells #[.int .i64 0, .slice none 0 0] 30)).alloc (.cells (madeCells #[.slice none 0 0, .slice none 0 0, .slice none 0 0] (n * 3)) 44)).heap.size = w.heap.size + 1 + 1 + 1 := by simp
      have hm := heap_alloc_new ((w.alloc (.cells #[.int .i64 p, .slice (some ⟨B, 0, none⟩) n cB] 49)).alloc (.cells #[.int .i64 0, .slice none 0 0] 30)) (.cells (madeCells #[.slice none 0 0, .slice none 0 0, .slice none 0 0] (n * 3)) 44)
      have hv := heap_alloc_new (((w.alloc (.cells #[.int .i64 p, .slice (some ⟨B, 0, none⟩) n cB] 49)).alloc (.cells #[.int .i64 0, .slice none 0 0] 30)).alloc (.cells (madeCells #[.slice none 0 0, .slice none 0 0, .slice none 0 0] (n * 3)) 44)) (.cells #[.int .i64 p, .slice (some ⟨w.heap.size + 1 + 1, 0, none⟩) n n] 30)
      rw [z2] at hm
      rw [z3] at hv
      exact FiInv.first L (keep hv (Below.refl _ _).drew) (keep (keep hm (below_al _ _)) (Below.refl _ _).drew) (by rw [size_madeCells]) ((below_two _ _ _).drew) (by omega) (by omega) (by omega)
    have HZ : Hid (((w.alloc (.cells #[.int .i64 p, .slice (some ⟨B, 0, none⟩) n cB] 49)).alloc (.cells #[.int .i64 0, .slice none 0 0] 30)).heap.size = w.heap.size + 1 + 1) := by simp [Hid]
    have HRS : Hid (((w.alloc (.cells #[.int .i64 p, .slice (some ⟨B, 0, none⟩) n cB] 49)).alloc (.cells #[.int .i64 0, .slice none 0 0] 30)).heap[w.heap.size + 1]? = some (.cells #[.int .i64 0, .slice none 0 0] 30 (0, 0))) := by
      have := heap_alloc_new (w.alloc (.cells #[.int .i64 p, .slice (some ⟨B, 0, none⟩) n cB] 49)) (.cells #[.int .i64 0, .slice none 0 0] 30)
      rw [show (w.alloc (.cells #[.int .i64 p, .slice (some ⟨B, 0, none⟩) n cB] 49)).heap.size = w.heap.size + 1 by simp] at this
      exact this
    generalize ((((w.alloc (.cells #[.int .i64 p, .slice (some ⟨B, 0, none⟩) n cB] 49)).alloc (.cells #[.int .i64 0, .slice none 0 0] 30)).alloc (.cells (madeCells #[.slice none 0 0, .slice none 0 0, .slice none 0 0] (n * 3)) 44)).alloc (.cells #[.int .i64 p, .slice (some ⟨w.heap.size + 1 + 1, 0, none⟩) n n] 30)).drew = W at HI ⊢
    generalize ((w.alloc (.cells #[.int .i64 p, .slice (some ⟨B, 0, none⟩) n cB] 49)).alloc (.cells #[.int .i64 0, .slice none 0 0] 30)) = W2 at HI HZ HRS HB0
    generalize w.heap.size + 1 + 1 + 1 = V at HI ⊢
    obtain ⟨M, hM⟩ : ∃ M, Hid (w.heap.size + 1 + 1 = M) := ⟨_, rfl⟩
    rw [hM.out] at HI ⊢
    clear hmk
    go_loopw [16] (fun i wr => ∃ k : Nat, k ≤ n ∧ i = .int .i64 k ∧ Hid (FiInv W2 wr V M p n k L)) (fun i _ => n - (intOf i).toNat)
    case atStart => exact ⟨0, Nat.zero_le _, rfl, HI⟩
    case round =>
      obtain ⟨k, hk, rfl, hin⟩ := hrel
      clear HI
      have HBW := hide (HB0.out.trans (hin.out.bel.mono HB0.out.size))
      by_cases hlt : k < n
      rotate_left
      · have hk' : k = n := by omega
        subst hk'
        obtain ⟨hv0, hv1⟩ := cells2 hin.out.var
        have hRr := (hin.out.bel.block (w.heap.size + 1) (by rw [HZ.out]; omega)).trans HRS.out
        obtain ⟨hr0, hr1⟩ := cells2 hRr
        have hf0 : wr.frozen? ⟨w.heap.size + 1, 0, none⟩ = false := frozen_of_row wr _ 0 _ _ hRr
        have hf1 : wr.frozen? ⟨w.heap.size + 1, 1, none⟩ = false := frozen_of_row wr _ 1 _ _ hRr
        have HT : Hid (TriX wr W2.heap.size (.slice (some ⟨M, 0, none⟩) k k) k L) := by
          obtain ⟨C, A, f, cap, q1, q2, q3, q4⟩ := hin.out.fil
          exact TriX.made HL.out q1 q2 hin.out.hM (by unfold maxLen; omega) q3 q4
        have hne : V ≠ w.heap.size + 1 := by have := hin.out.hV; rw [HZ.out] at this; omega
        clear hin hRr
        go_wp2_with fail
        refine bodyPost_ret (v := .agg #[.int .i64 p, .slice (some ⟨M, 0, none⟩) k k]) (by simp [results, Try.results19, go_sem, hr0, hr1]) rfl ?_
        refine ⟨M, rfl, ((HT.out.low (by rw [HZ.out]; omega) 0 _).low (by rw [HZ.out]; omega) 1 _).lower (by rw [HZ.out]; omega), (HBW.out.setCell (by simp) _).setCell (by simp) _⟩
      obtain ⟨hc0, hc1, hc2⟩ := (HP.out.grow HBW.out).at3X hlt
      have HSX := hide (setsX HG.out hlt)
      have HLI := hide (fun W => stepLists_any (maskL (L.getD (3 * k) [])) (maskL (L.getD (3 * k + 1) [])) (maskL (L.getD (3 * k + 2) [])) W (maskL_lt _ fun x hx => by have := (netOk_mem HG.out hlt).1 x hx; have := (netOk_parts HG.out).1; omega) (maskL_lt _ fun x hx => by have := (netOk_mem HG.out hlt).2.1 x hx; have := (netOk_parts HG.out).1; omega) (maskL_lt _ fun x hx => by have := (netOk_mem HG.out hlt).2.2 x hx; have := (netOk_parts HG.out).1; omega))
      rw [HSX.out.1, HSX.out.2.1, HSX.out.2.2] at HLI
      obtain ⟨s0, hs0⟩ : ∃ s, Hid (maskL (L.getD (3 * k) []) = s) := ⟨_, rfl⟩
      obtain ⟨s1, hs1⟩ : ∃ s, Hid (maskL (L.getD (3 * k + 1) []) = s) := ⟨_, rfl⟩
      obtain ⟨s2, hs2⟩ : ∃ s, Hid (maskL (L.getD (3 * k + 2) []) = s) := ⟨_, rfl⟩
      rw [hs0.out] at hc0 HLI
      rw [hs1.out] at hc1 HLI
      rw [hs2.out] at hc2 HLI
      have hA1 := below_al wr (.cells #[.int .u16 (s0 : Int), .int .u16 (s1 : Int), .int .u16 (s2 : Int)] 58)
      have HI1 := hide (hin.out.grow hA1)
      have HX := hide (heap_alloc_new wr (.cells #[.int .u16 (s0 : Int), .int .u16 (s1 : Int), .int .u16 (s2 : Int)] 58))
      have HXM := hide (show wr.heap.size ≠ M by have := hin.out.ltM; omega)
      clear hin hA1 HSX hs0 hs1 hs2 HBW
      go_wp2_with fail
      clear hc0 hc1 hc2
      obtain ⟨U, hU⟩ : ∃ U, Hid (wr.alloc (.cells #[.int .u16 (s0 : Int), .int .u16 (s1 : Int), .int .u16 (s2 : Int)] 58) = U) := ⟨_, rfl⟩
      obtain ⟨X, hX⟩ : ∃ X, Hid (wr.heap.size = X) := ⟨_, rfl⟩
      rw [hU.out] at HI1 HX ⊢
      rw [hX.out] at HX HXM ⊢
      have HI2 := hide (HI1.out.grow (Below.refl _ U).drew)
      have HX2 := hide (keep HX.out (Below.refl _ U).drew)
      have hk0 : (0 : Int) ≤ (k : Int) := by omega
      have hk1 : (k : Int) < (n : Int) := by omega
      clear HI1 HX hU hX
      refine wp_region_held_drew (S := fun W => W.cell? ⟨V, 1, none⟩ = some (.slice (some ⟨M, 0, none⟩) n n) ∧ W.cell? ⟨X, 0, none⟩ = some (.int .u16 (s0 : Int)) ∧ W.cell? ⟨X, 1, none⟩ = some (.int .u16 (s1 : Int)) ∧ W.cell? ⟨X, 2, none⟩ = some (.int .u16 (s2 : Int))) (by kernel_rfl) ?_ (fun hHeld => ?_)
      · exact ⟨(cells2 HI2.out.var).2, cells3W HX2.out⟩
      refine take_yes (i := 0) (some 21) (.pointer (some ⟨V, 1, none⟩)) rfl rfl (by kernel_rfl) (by kernel_rfl) (by kernel_rfl) (fun _ _ _ h => h) (by rfl) ?_ (by assumption) ?_
      · intro W' hSw
        obtain ⟨hz0, hz1, hz2, hz3⟩ := hSw
        go_simp
      simp only [Act.put, List.setIfInBounds_toArray, List.set_cons_zero, List.set_cons_succ]
      refine take_yes (i := 1) (some 22) (.slice (some ⟨M, 0, none⟩) n n) rfl rfl (by kernel_rfl) (by kernel_rfl) (by kernel_rfl) (fun _ _ _ h => h) (by rfl) ?_ (by assumption) ?_
      · intro W' hSw
        obtain ⟨hz0, hz1, hz2, hz3⟩ := hSw
        go_simp
      simp only [Act.put, List.setIfInBounds_toArray, List.set_cons_zero, List.set_cons_succ]
      refine take_yes (i := 2) (some 23) (.int .i64 (k : Int)) rfl rfl (by kernel_rfl) (by kernel_rfl) (by kernel_rfl) (fun _ _ _ h => h) (by rfl) ?_ (by assumption) ?_
      · intro W' hSw
        obtain ⟨hz0, hz1, hz2, hz3⟩ := hSw
        go_simp
      simp only [Act.put, List.setIfInBounds_toArray, List.set_cons_zero, List.set_cons_succ]
      refine take_yes (i := 3) (some 24) (.agg #[.int .u16 (s0 : Int), .int .u16 (s1 : Int), .int .u16 (s2 : Int)]) rfl rfl (by kernel_rfl) (by kernel_rfl) (by kernel_rfl) (fun _ _ _ h => h) (by rfl) ?_ (by assumption) ?_
      · intro W' hSw
        obtain ⟨hz0, hz1, hz2, hz3⟩ := hSw
        go_simp
      simp only [Act.put, List.setIfInBounds_toArray, List.set_cons_zero, List.set_cons_succ]
      refine call_next (i := 4) (some 25) rfl rfl (by kernel_rfl) (by rfl) 37 _ _ _ rfl Try.func37 (by decide) rfl #[.agg #[.int .u16 (s0 : Int), .int .u16 (s1 : Int), .int .u16 (s2 : Int)]] (mapw1 _ _ _ rfl) _ (HLI.out _) ?_
      rintro e v1 ⟨a0, b0, m0, c0, a1, b1, m1, c1, a2, b2, m2, c2, rfl, o0, o1, o2, g0, g1, g2, d01, d02, d12, hb1⟩
      refine ⟨_, rfl, ?_, fun hHeld => ?_⟩
      · exact ⟨(cells2 (keep HI2.out.var hb1)).2, cells3W (keep HX2.out hb1)⟩
      simp only [Act.put, List.setIfInBounds_toArray, List.set_cons_zero, List.set_cons_succ]
      refine take_yes (i := 5) (some 26) (.pointer (some ⟨M, k * 3, none⟩)) rfl rfl (by kernel_rfl) (by kernel_rfl) (by kernel_rfl) (fun _ _ _ h => h) (by rfl) ?_ (by assumption) ?_
      · intro W' hSw
        obtain ⟨hz0, hz1, hz2, hz3⟩ := hSw
        go_simp
      simp only [Act.put, List.setIfInBounds_toArray, List.set_cons_zero, List.set_cons_succ]
      refine store_mid_next (i := 6) rfl rfl (by kernel_rfl) (by rfl) 44 _ _ rfl M (k * 3) #[.slice a0 m0 c0, .slice a1 m1 c1, .slice a2 m2 c2] rfl rfl ((HI2.out.grow hb1).there hlt) Try.size44 (by simp [Value.oneCell']) ?_ (fun hHeld => ?_)
      · exact ⟨(cells2 ((heap_set3_other _ _ _ _ _ _ _ HI2.out.ne).trans (keep HI2.out.var hb1))).2, cells3W ((heap_set3_other _ _ _ _ _ _ _ HXM.out).trans (keep HX2.out hb1))⟩
      refine wpAnyH_done (by kernel_rfl) ?_ _
      have HI3 : Hid (FiInv W2 (v1.setCells M (k * 3) [.slice a0 m0 c0, .slice a1 m1 c1, .slice a2 m2 c2]) V M p n (k + 1) L) := HI2.out.step hlt hb1 o0 o1 o2 g0 g1 g2 d01 d02 d12 rfl rfl rfl
      clear o0 o1 o2 g0 g1 g2 d01 d02 d12 hb1 hHeld HI2 HX2 HLI
      go_wp2_with fail
      go_roundw
      case rel => exact ⟨k + 1, by omega, by go_num, HI3⟩
      case measure => simp [intOf]; omega
  · have HI : Hid (FiInv ((w.alloc (.cells #[.int .i64 p, .slice (some ⟨B, 0, none⟩) n cB] 49)).alloc (.cells #[.int .i64 0, .slice none 0 0] 30)) ((((w.alloc (.cells #[.int .i64 p, .slice (some ⟨B, 0, none⟩) n cB] 49)).alloc (.cells #[.int .i64 0, .slice none 0 0] 30)).alloc (.cells #[.int .i64 p, .slice (some ⟨w.heap.size + 1 + 1 + 1, 0, none⟩) n n] 30)).alloc (.cells (madeCells #[.slice none 0 0, .slice none 0 0, .slice none 0 0] (n * 3)) 44)).drew (w.heap.size + 1 + 1) (w.heap.size + 1 + 1 + 1) p n 0 L) := by
      have z2 : ((w.alloc (.cells #[.int .i64 p, .slice (some ⟨B, 0, none⟩) n cB] 49)).alloc (.cells #[.int .i64 0, .slice none 0 0] 30)).heap.size = w.heap.size + 1 + 1 := by simp
      have z3 : (((w.alloc (.cells #[.int .i64 p, .slice (some ⟨B, 0, none⟩) n cB] 49)).alloc (.cells #[.int .i64 0, .slice none 0 0] 30)).alloc (.cells #[.int .i64 p, .slice (some ⟨w.heap.size + 1 + 1 + 1, 0, none⟩) n n] 30)).heap.size = w.heap.size + 1 + 1 + 1 := by simp
      have hv := heap_alloc_new ((w.alloc (.cells #[.int .i64 p, .slice (some ⟨B, 0, none⟩) n cB] 49)).alloc (.cells #[.int .i64 0, .slice none 0 0] 30)) (.cells #[.int .i64 p, .slice (some ⟨w.heap.size + 1 + 1 + 1, 0, none⟩) n n] 30)
      have hm := heap_alloc_new (((w.alloc (.cells #[.int .i64 p, .slice (some ⟨B, 0, none⟩) n cB] 49)).alloc (.cells #[.int .i64 0, .slice none 0 0] 30)).alloc (.cells #[.int .i64 p, .slice (some ⟨w.heap.size + 1 + 1 + 1, 0, none⟩) n n] 30)) (.cells (madeCells #[.slice none 0 0, .slice none 0 0, .slice none 0 0] (n * 3)) 44)
      rw [z2] at hv
      rw [z3] at hm
      exact FiInv.first L (keep (keep hv (below_al _ _)) (Below.refl _ _).drew) (keep hm (Below.refl _ _).drew) (by rw [size_madeCells]) ((below_two _ _ _).drew) (by omega) (by omega) (by omega)
    have HZ : Hid (((w.alloc (.cells #[.int .i64 p, .slice (some ⟨B, 0, none⟩) n cB] 49)).alloc (.cells #[.int .i64 0, .slice none 0 0] 30)).heap.size = w.heap.size + 1 + 1) := by simp [Hid]
    have HRS : Hid (((w.alloc (.cells #[.int .i64 p, .slice (some ⟨B, 0, none⟩) n cB] 49)).alloc (.cells #[.int .i64 0, .slice none 0 0] 30)).heap[w.heap.size + 1]? = some (.cells #[.int .i64 0, .slice none 0 0] 30 (0, 0))) := by
      have := heap_alloc_new (w.alloc (.cells #[.int .i64 p, .slice (some ⟨B, 0, none⟩) n cB] 49)) (.cells #[.int .i64 0, .slice none 0 0] 30)
      rw [show (w.alloc (.cells #[.int .i64 p, .slice (some ⟨B, 0, none⟩) n cB] 49)).heap.size = w.heap.size + 1 by simp] at this
      exact this
    generalize ((((w.alloc (.cells #[.int .i64 p, .slice (some ⟨B, 0, none⟩) n cB] 49)).alloc (.cells #[.int .i64 0, .slice none 0 0] 30)).alloc (.cells #[.int .i64 p, .slice (some ⟨w.heap.size + 1 + 1 + 1, 0, none⟩) n n] 30)).alloc (.cells (madeCells #[.slice none 0 0, .slice none 0 0, .slice none 0 0] (n * 3)) 44)).drew = W at HI ⊢
    generalize ((w.alloc (.cells #[.int .i64 p, .slice (some ⟨B, 0, none⟩) n cB] 49)).alloc (.cells #[.int .i64 0, .slice none 0 0] 30)) = W2 at HI HZ HRS HB0
    generalize w.heap.size + 1 + 1 + 1 = M at HI ⊢
    obtain ⟨V, hM⟩ : ∃ M, Hid (w.heap.size + 1 + 1 = M) := ⟨_, rfl⟩
    rw [hM.out] at HI ⊢
    clear hmk
    go_loopw [16] (fun i wr => ∃ k : Nat, k ≤ n ∧ i = .int .i64 k ∧ Hid (FiInv W2 wr V M p n k L)) (fun i _ => n - (intOf i).toNat)
    case atStart => exact ⟨0, Nat.zero_le _, rfl, HI⟩
    case round =>
      obtain ⟨k, hk, rfl, hin⟩ := hrel
      clear HI
      have HBW := hide (HB0.out.trans (hin.out.bel.mono HB0.out.size))
      by_cases hlt : k < n
      rotate_left
      · have hk' : k = n := by omega
        subst hk'
        obtain ⟨hv0, hv1⟩ := cells2 hin.out.var
        have hRr := (hin.out.bel.block (w.heap.size + 1) (by rw [HZ.out]; omega)).trans HRS.out
        obtain ⟨hr0, hr1⟩ := cells2 hRr
        have hf0 : wr.frozen? ⟨w.heap.size + 1, 0, none⟩ = false := frozen_of_row wr _ 0 _ _ hRr
        have hf1 : wr.frozen? ⟨w.heap.size + 1, 1, none⟩ = false := frozen_of_row wr _ 1 _ _ hRr
        have HT : Hid (TriX wr W2.heap.size (.slice (some ⟨M, 0, none⟩) k k) k L) := by
          obtain ⟨C, A, f, cap, q1, q2, q3, q4⟩ := hin.out.fil
          exact TriX.made HL.out q1 q2 hin.out.hM (by unfold maxLen; omega) q3 q4
        have hne : V ≠ w.heap.size + 1 := by have := hin.out.hV; rw [HZ.out] at this; omega
        clear hin hRr
        go_wp2_with fail
        refine bodyPost_ret (v := .agg #[.int .i64 p, .slice (some ⟨M, 0, none⟩) k k]) (by simp [results, Try.results19, go_sem, hr0, hr1]) rfl ?_
        refine ⟨M, rfl, ((HT.out.low (by rw [HZ.out]; omega) 0 _).low (by rw [HZ.out]; omega) 1 _).lower (by rw [HZ.out]; omega), (HBW.out.setCell (by simp) _).setCell (by simp) _⟩
      obtain ⟨hc0, hc1, hc2⟩ := (HP.out.grow HBW.out).at3X hlt
      have HSX := hide (setsX HG.out hlt)
      have HLI := hide (fun W => stepLists_any (maskL (L.getD (3 * k) [])) (maskL (L.getD (3 * k + 1) [])) (maskL (L.getD (3 * k + 2) [])) W (maskL_lt _ fun x hx => by have := (netOk_mem HG.out hlt).1 x hx; have := (netOk_parts HG.out).1; omega) (maskL_lt _ fun x hx => by have := (netOk_mem HG.out hlt).2.1 x hx; have := (netOk_parts HG.out).1; omega) (maskL_lt _ fun x hx => by have := (netOk_mem HG.out hlt).2.2 x hx; have := (netOk_parts HG.out).1; omega))
      rw [HSX.out.1, HSX.out.2.1, HSX.out.2.2] at HLI
      obtain ⟨s0, hs0⟩ : ∃ s, Hid (maskL (L.getD (3 * k) []) = s) := ⟨_, rfl⟩
      obtain ⟨s1, hs1⟩ : ∃ s, Hid (maskL (L.getD (3 * k + 1) []) = s) := ⟨_, rfl⟩
      obtain ⟨s2, hs2⟩ : ∃ s, Hid (maskL (L.getD (3 * k + 2) []) = s) := ⟨_, rfl⟩
      rw [hs0.out] at hc0 HLI
      rw [hs1.out] at hc1 HLI
      rw [hs2.out] at hc2 HLI
      have hA1 := below_al wr (.cells #[.int .u16 (s0 : Int), .int .u16 (s1 : Int), .int .u16 (s2 : Int)] 58)
      have HI1 := hide (hin.out.grow hA1)
      have HX := hide (heap_alloc_new wr (.cells #[.int .u16 (s0 : Int), .int .u16 (s1 : Int), .int .u16 (s2 : Int)] 58))
      have HXM := hide (show wr.heap.size ≠ M by have := hin.out.ltM; omega)
      clear hin hA1 HSX hs0 hs1 hs2 HBW
      go_wp2_with fail
      clear hc0 hc1 hc2
      obtain ⟨U, hU⟩ : ∃ U, Hid (wr.alloc (.cells #[.int .u16 (s0 : Int), .int .u16 (s1 : Int), .int .u16 (s2 : Int)] 58) = U) := ⟨_, rfl⟩
      obtain ⟨X, hX⟩ : ∃ X, Hid (wr.heap.size = X) := ⟨_, rfl⟩
      rw [hU.out] at HI1 HX ⊢
      rw [hX.out] at HX HXM ⊢
      have HI2 := hide (HI1.out.grow (Below.refl _ U).drew)
      have HX2 := hide (keep HX.out (Below.refl _ U).drew)
      have hk0 : (0 : Int) ≤ (k : Int) := by omega
      have hk1 : (k : Int) < (n : Int) := by omega
      clear HI1 HX hU hX
      refine wp_region_held_drew (S := fun W => W.cell? ⟨V, 1, none⟩ = some (.slice (some ⟨M, 0, none⟩) n n) ∧ W.cell? ⟨X, 0, none⟩ = some (.int .u16 (s0 : Int)) ∧ W.cell? ⟨X, 1, none⟩ = some (.int .u16 (s1 : Int)) ∧ W.cell? ⟨X, 2, none⟩ = some (.int .u16 (s2 : Int))) (by kernel_rfl) ?_ (fun hHeld => ?_)
      · exact ⟨(cells2 HI2.out.var).2, cells3W HX2.out⟩
      refine take_yes (i := 0) (some 21) (.pointer (some ⟨V, 1, none⟩)) rfl rfl (by kernel_rfl) (by kernel_rfl) (by kernel_rfl) (fun _ _ _ h => h) (by rfl) ?_ (by assumption) ?_
      · intro W' hSw
        obtain ⟨hz0, hz1, hz2, hz3⟩ := hSw
        go_simp
      simp only [Act.put, List.setIfInBounds_toArray, List.set_cons_zero, List.set_cons_succ]
      refine take_yes (i := 1) (some 22) (.slice (some ⟨M, 0, none⟩) n n) rfl rfl (by kernel_rfl) (by kernel_rfl) (by kernel_rfl) (fun _ _ _ h => h) (by rfl) ?_ (by assumption) ?_
      · intro W' hSw
        obtain ⟨hz0, hz1, hz2, hz3⟩ := hSw
        go_simp
      simp only [Act.put, List.setIfInBounds_toArray, List.set_cons_zero, List.set_cons_succ]
      refine take_yes (i := 2) (some 23) (.int .i64 (k : Int)) rfl rfl (by kernel_rfl) (by kernel_rfl) (by kernel_rfl) (fun _ _ _ h => h) (by rfl) ?_ (by assumption) ?_
      · intro W' hSw
        obtain ⟨hz0, hz1, hz2, hz3⟩ := hSw
        go_simp
      simp only [Act.put, List.setIfInBounds_toArray, List.set_cons_zero, List.set_cons_succ]
      refine take_yes (i := 3) (some 24) (.agg #[.int .u16 (s0 : Int), .int .u16 (s1 : Int), .int .u16 (s2 : Int)]) rfl rfl (by kernel_rfl) (by kernel_rfl) (by kernel_rfl) (fun _ _ _ h => h) (by rfl) ?_ (by assumption) ?_
      · intro W' hSw
        obtain ⟨hz0, hz1, hz2, hz3⟩ := hSw
        go_simp
      simp only [Act.put, List.setIfInBounds_toArray, List.set_cons_zero, List.set_cons_succ]
      refine call_next (i := 4) (some 25) rfl rfl (by kernel_rfl) (by rfl) 37 _ _ _ rfl Try.func37 (by decide) rfl #[.agg #[.int .u16 (s0 : Int), .int .u16 (s1 : Int), .int .u16 (s2 : Int)]] (mapw1 _ _ _ rfl) _ (HLI.out _) ?_
      rintro e v1 ⟨a0, b0, m0, c0, a1, b1, m1, c1, a2, b2, m2, c2, rfl, o0, o1, o2, g0, g1, g2, d01, d02, d12, hb1⟩
      refine ⟨_, rfl, ?_, fun hHeld => ?_⟩
      · exact ⟨(cells2 (keep HI2.out.var hb1)).2, cells3W (keep HX2.out hb1)⟩
      simp only [Act.put, List.setIfInBounds_toArray, List.set_cons_zero, List.set_cons_succ]
      refine take_yes (i := 5) (some 26) (.pointer (some ⟨M, k * 3, none⟩)) rfl rfl (by kernel_rfl) (by kernel_rfl) (by kernel_rfl) (fun _ _ _ h => h) (by rfl) ?_ (by assumption) ?_
      · intro W' hSw
        obtain ⟨hz0, hz1, hz2, hz3⟩ := hSw
        go_simp
      simp only [Act.put, List.setIfInBounds_toArray, List.set_cons_zero, List.set_cons_succ]
      refine store_mid_next (i := 6) rfl rfl (by kernel_rfl) (by rfl) 44 _ _ rfl M (k * 3) #[.slice a0 m0 c0, .slice a1 m1 c1, .slice a2 m2 c2] rfl rfl ((HI2.out.grow hb1).there hlt) Try.size44 (by simp [Value.oneCell']) ?_ (fun hHeld => ?_)
      · exact ⟨(cells2 ((heap_set3_other _ _ _ _ _ _ _ HI2.out.ne).trans (keep HI2.out.var hb1))).2, cells3W ((heap_set3_other _ _ _ _ _ _ _ HXM.out).trans (keep HX2.out hb1))⟩
      refine wpAnyH_done (by kernel_rfl) ?_ _
      have HI3 : Hid (FiInv W2 (v1.setCells M (k * 3) [.slice a0 m0 c0, .slice a1 m1 c1, .slice a2 m2 c2]) V M p n (k + 1) L) := HI2.out.step hlt hb1 o0 o1 o2 g0 g1 g2 d01 d02 d12 rfl rfl rfl
      clear o0 o1 o2 g0 g1 g2 d01 d02 d12 hb1 hHeld HI2 HX2 HLI
      go_wp2_with fail
      go_roundw
      case rel => exact ⟨k + 1, by omega, by go_num, HI3⟩
      case measure => simp [intOf]; omega
end Go.Proofs.Ytoijlepjnpdlkaa


/- ShortNet of the program. -/
namespace Go.Proofs.Ytoijlepjnpdlkaa
open Go.RowKit
set_option maxRecDepth 10000

/-- The lists of the net with one transition more behind, from To to From. -/
def shortL (L : List (List Int)) (s t : Int) : List (List Int) := L ++ [[t], [s], []]

theorem shortL_len {n : Nat} {L : List (List Int)} {s t : Int} (h : L.length = 3 * n) : (shortL L s t).length = 3 * (n + 1) := by
  unfold shortL; rw [List.length_append, h]; simp; omega

noncomputable def shortOk (p : Int) (n : Nat) (L : List (List Int)) (s t : Int) : Bool := flowOk p n L s t && netOk p (n + 1) (shortL L s t)

theorem sizeL_app (K N : List (List Int)) : sizeL (K ++ N) = sizeL K + sizeL N := by unfold sizeL; rw [List.map_append, List.sum_append]

theorem getLen16X {p : Int} {n : Nat} {L : List (List Int)} (h : netOk p n L = true) (j : Nat) (hj : j < 3 * n) : (L.getD j []).length ≤ 16 := by
  obtain ⟨hp, _, h3⟩ := netOk_parts h
  obtain ⟨r0, r1, r2⟩ := tri3_rise (h3 (j / 3) (by omega))
  have hm : ∀ xs : List Int, riseB xs 0 (p - 1) = true → xs.length ≤ 16 := by
    intro xs hx
    have h1 := nums2_mask hp.2 hx
    rw [← h1]
    unfold nums2
    have := List.length_filter_le (maskL xs).testBit (List.range 16)
    simpa using this
  have : j % 3 = 0 ∨ j % 3 = 1 ∨ j % 3 = 2 := by omega
  rcases this with e | e | e
  · rw [show j = 3 * (j / 3) by omega]; exact hm _ r0
  · rw [show j = 3 * (j / 3) + 1 by omega]; exact hm _ r1
  · rw [show j = 3 * (j / 3) + 2 by omega]; exact hm _ r2

theorem sum16X (l : List Nat) (h : ∀ x ∈ l, x ≤ 16) : l.sum ≤ 16 * l.length := by
  induction l with
  | nil => simp
  | cons x r ih =>
    have h1 := h x (by simp)
    have h2 := ih fun y hy => h y (by simp [hy])
    simp; omega

theorem netSizeX {p : Int} {n : Nat} {L : List (List Int)} (h : netOk p n L = true) (hl : L.length = 3 * n) : sizeN n L ≤ 2000 := by
  have hn := (netOk_parts h).2.1
  have : sizeL L ≤ 16 * (3 * n) := by
    unfold sizeL
    have h1 := sum16X (L.map List.length) (by
      intro x hx
      rw [List.mem_map] at hx
      obtain ⟨y, hy, rfl⟩ := hx
      obtain ⟨j, hj, rfl⟩ := List.getElem_of_mem hy
      have := getLen16X h j (by omega)
      rw [List.getD_eq_getElem?_getD, List.getElem?_eq_getElem hj] at this
      exact this)
    rw [List.length_map, hl] at h1
    exact h1
  unfold sizeN; omega

theorem shortSize {p : Int} {n : Nat} {L : List (List Int)} {s t : Int} (h : netOk p n L = true) (hl : L.length = 3 * n) : sizeN (n + 1) (shortL L s t) ≤ 1048576 := by
  have := netSizeX h hl
  unfold sizeN at *
  unfold shortL
  rw [sizeL_app]
  have : sizeL [[t], [s], []] = 2 := rfl
  omega

/-- How the program's ShortNet ends. -/
def ShEnd (g : Bool) (p : Int) (n : Nat) (K : List (List Int)) (w : World) (e : Ending) (w' : World) : Prop :=
  ∃ (a : Option Addr) (c : Nat), e = .returned (.tuple #[.agg #[.int .i64 (if g then p else 0), .slice a (if g then n else 0) c], .bool g]) ∧ (g = true → TriX w' w.heap.size (.slice a n c) n K) ∧ Below w.heap.size w w'

theorem shEnd_no {p : Int} {n : Nat} {K : List (List Int)} {w w' : World} (hb : Below w.heap.size w w') : ShEnd false p n K w (.returned (.tuple #[.agg #[.int .i64 0, .slice none 0 0], .bool false])) w' :=
  ⟨none, 0, rfl, fun h => by simp at h, hb⟩

theorem news3X (w : World) (x y z : Value) : ∀ j u, ([x, y, z] : List Value)[j]? = some u → (w.alloc (.cells #[x, y, z] 44)).cell? ((⟨w.heap.size, 0, none⟩ : Addr).add j) = some u := by
  intro j u hu
  rw [Addr.add_mid, cell_of_row _ w.heap.size (0 + j) #[x, y, z] _ _ (heap_alloc_new _ _), Nat.zero_add]
  simpa using hu

theorem obOne (w : World) (x : Int) : Ob (w.alloc (.cells #[.int .i64 x] 3)) (some ⟨w.heap.size, 0, none⟩) w.heap.size 1 [x] :=
  ⟨rfl, .inr ⟨rfl, _, heap_alloc_new _ _, by simp, fun i hi => by rw [show i = 0 by omega]; rfl⟩⟩

end Go.Proofs.Ytoijlepjnpdlkaa
