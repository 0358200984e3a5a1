/- A list of transitions that is being made: its cells in a row of its own, each of its lists in a block of its own. -/
import Derived.Test.YtnknhjiofpjbbaaGm
import Derived.Deep.AppendLies
namespace Go.Proofs.Ytnknhjiofpjbbaa
open Go.RowKit

theorem Ob.movedX {w w' : World} {a : Option Addr} {b n : Nat} {xs : List Int} (h : Ob w a b n xs) (hh : xs ≠ [] → w'.heap[b]? = w.heap[b]?) : Ob w' a b n xs := by
  rcases h with ⟨h1, h0 | ⟨e, cur, q1, q2, q3⟩⟩
  · exact ⟨h1, .inl h0⟩
  · by_cases hx : xs = []
    · subst hx; exact ⟨h1, .inl (by rw [← h1]; rfl)⟩
    · exact ⟨h1, .inr ⟨e, cur, (hh hx).trans q1, q2, q3⟩⟩

theorem Ob.ltX {w : World} {a : Option Addr} {b m : Nat} {X : List Int} (ho : Ob w a b m X) (hx : X ≠ []) : b < w.heap.size := by
  rcases ho with ⟨q, h0 | ⟨_, cur, hh, _⟩⟩
  · exact absurd (List.length_eq_zero_iff.mp (q.trans h0)) hx
  · exact (Array.getElem?_eq_some_iff.mp hh).1

/-- v is a slice of k transitions in a row of its own, whose lists are K. -/
structure Tris (w : World) (lo : Nat) (v : Value) (k : Nat) (K : List (List Int)) (cells : List Value) (A : Nat → Option Addr) (f cap : Nat → Nat) : Prop where
  len : K.length = 3 * k
  own : w.ownsRow lo 56 3 v k cells
  tri : ∀ j, j < 3 * k → cells[j]? = some (.slice (A j) (K.getD j []).length (cap j)) ∧ Ob w (A j) (f j) (K.getD j []).length (K.getD j []) ∧ (K.getD j [] ≠ [] → lo ≤ f j ∧ f j < w.heap.size ∧ v.ownBlock ≠ some (f j))
  apart : ∀ i j, i < j → j < 3 * k → K.getD i [] ≠ [] → K.getD j [] ≠ [] → f i ≠ f j

def TriX (w : World) (lo : Nat) (v : Value) (k : Nat) (K : List (List Int)) : Prop := ∃ cells A f cap, Tris w lo v k K cells A f cap

theorem TriX.nil (w : World) (lo : Nat) : TriX w lo (.slice none 0 0) 0 [] :=
  ⟨[], fun _ => none, fun _ => 0, fun _ => 0, rfl, ⟨rfl, .inl ⟨rfl, rfl⟩⟩, fun j hj => absurd hj (by omega), fun i j _ hj => absurd hj (by omega)⟩

/-- Where the blocks from lo on are as they were. -/
theorem TriX.high {w w' : World} {lo : Nat} {v : Value} {k : Nat} {K : List (List Int)} (h : TriX w lo v k K) (hh : ∀ q, lo ≤ q → q < w.heap.size → w'.heap[q]? = w.heap[q]?) (hs : w.heap.size ≤ w'.heap.size) : TriX w' lo v k K := by
  obtain ⟨cells, A, f, cap, h1, h2, h3, h4⟩ := h
  refine ⟨cells, A, f, cap, h1, ⟨h2.1, ?_⟩, fun j hj => ?_, h4⟩
  · rcases h2.2 with hn | ⟨g, cp, cur, e, hg, hq, r⟩
    · exact .inl hn
    · exact .inr ⟨g, cp, cur, e, hg, (hh g hg (Array.getElem?_eq_some_iff.mp hq).1).trans hq, r⟩
  · obtain ⟨q1, q2, q3⟩ := h3 j hj
    exact ⟨q1, q2.movedX fun hx => hh _ (q3 hx).1 (q3 hx).2.1, fun hx => ⟨(q3 hx).1, by have := (q3 hx).2.1; omega, (q3 hx).2.2⟩⟩

theorem TriX.grow {w w' : World} {lo : Nat} {v : Value} {k : Nat} {K : List (List Int)} (h : TriX w lo v k K) (hb : Below w.heap.size w w') : TriX w' lo v k K :=
  h.high (fun q _ hq => hb.block q hq) hb.size

theorem TriX.low {w : World} {lo : Nat} {v : Value} {k : Nat} {K : List (List Int)} (h : TriX w lo v k K) {b : Nat} (hb : b < lo) (o : Nat) (u : Value) : TriX (w.setCell ⟨b, o, none⟩ u) lo v k K :=
  h.high (fun q hq _ => Below.heap_setCell _ _ _ _ (by show q ≠ b; omega)) (by simp [World.setCell])

theorem getD_app {K N : List (List Int)} {j : Nat} : (K ++ N).getD j [] = if j < K.length then K.getD j [] else N.getD (j - K.length) [] := by
  simp only [List.getD_eq_getElem?_getD]
  split
  · rw [List.getElem?_append_left (by omega)]
  · rw [List.getElem?_append_right (by omega)]

theorem Tris.grow {w w' : World} {lo : Nat} {v : Value} {k : Nat} {K : List (List Int)} {cells : List Value} {A : Nat → Option Addr} {f cap : Nat → Nat} (h : Tris w lo v k K cells A f cap) (hb : Below w.heap.size w w') : Tris w' lo v k K cells A f cap := by
  refine ⟨h.len, ⟨h.own.1, ?_⟩, fun j hj => ?_, h.apart⟩
  · rcases h.own.2 with hn | ⟨g, cp, cur, e, hg, hq, r⟩
    · exact .inl hn
    · exact .inr ⟨g, cp, cur, e, hg, (hb.block g (Array.getElem?_eq_some_iff.mp hq).1).trans hq, r⟩
  · obtain ⟨q1, q2, q3⟩ := h.tri j hj
    exact ⟨q1, q2.grow hb, fun hx => ⟨(q3 hx).1, by have := (q3 hx).2.1; have := hb.size; omega, (q3 hx).2.2⟩⟩

/-- One transition more is appended: w is the world ahead of its lists, v3 the one behind them, W the one behind the append. -/
theorem Tris.push {w v3 W : World} {lo : Nat} {v : Value} {k : Nat} {K : List (List Int)} {cells : List Value} {A : Nat → Option Addr} {f cap : Nat → Nat} (h : Tris w lo v k K cells A f cap) (hb : Below w.heap.size w v3) (hlo : lo ≤ w.heap.size)
    {a0 a1 a2 : Option Addr} {b0 b1 b2 m0 m1 m2 c0 c1 c2 g cp : Nat} {X0 X1 X2 : List Int} (o0 : Ob v3 a0 b0 m0 X0) (o1 : Ob v3 a1 b1 m1 X1) (o2 : Ob v3 a2 b2 m2 X2)
    (g0 : X0 ≠ [] → w.heap.size ≤ b0) (g1 : X1 ≠ [] → w.heap.size ≤ b1) (g2 : X2 ≠ [] → w.heap.size ≤ b2)
    (d01 : X0 ≠ [] → X1 ≠ [] → b0 ≠ b1) (d02 : X0 ≠ [] → X2 ≠ [] → b0 ≠ b2) (d12 : X1 ≠ [] → X2 ≠ [] → b1 ≠ b2)
    (hown : W.ownsRow lo 56 3 (.slice (some ⟨g, 0, none⟩) (k + 1) cp) (k + 1) (cells ++ [.slice a0 m0 c0, .slice a1 m1 c1, .slice a2 m2 c2])) (hgr : v3.grownBy W v.ownBlock) (hl : v.ownBlock = some g ∨ g = v3.heap.size) :
    TriX W lo (.slice (some ⟨g, 0, none⟩) (k + 1) cp) (k + 1) (K ++ [X0, X1, X2]) := by
  have hob : ∀ q, v.ownBlock = some q → lo ≤ q ∧ q < w.heap.size := h.own.lt
  have hcl : cells.length = 3 * k := by have := h.own.1; omega
  have hkl := h.len
  have hgs := hgr.size
  have hbs := hb.size
  have hnew : ∀ {b : Nat}, w.heap.size ≤ b → b < v3.heap.size → some b ≠ v.ownBlock ∧ b ≠ g := by
    intro b hb1 hb2
    refine ⟨fun e => by have := hob b e.symm; omega, fun e => ?_⟩
    rcases hl with hl | hl
    · have := hob g hl; omega
    · omega
  have K0 : (K ++ [X0, X1, X2]).getD (3 * k) [] = X0 := by rw [getD_app, if_neg (by omega), hkl, Nat.sub_self]; rfl
  have K1 : (K ++ [X0, X1, X2]).getD (3 * k + 1) [] = X1 := by rw [getD_app, if_neg (by omega), hkl, show 3 * k + 1 - 3 * k = 1 by omega]; rfl
  have K2 : (K ++ [X0, X1, X2]).getD (3 * k + 2) [] = X2 := by rw [getD_app, if_neg (by omega), hkl, show 3 * k + 2 - 3 * k = 2 by omega]; rfl
  have Kold : ∀ j, j < 3 * k → (K ++ [X0, X1, X2]).getD j [] = K.getD j [] := fun j hj => by rw [getD_app, if_pos (by omega)]
  have one : ∀ {a : Option Addr} {b m : Nat} {X : List Int}, Ob v3 a b m X → (X ≠ [] → w.heap.size ≤ b) → Ob W a b m X ∧ (X ≠ [] → lo ≤ b ∧ b < W.heap.size ∧ (Value.slice (some ⟨g, 0, none⟩) (k + 1) cp).ownBlock ≠ some b) := by
    intro a b m X ho hge
    refine ⟨ho.movedX fun hx => ?_, fun hx => ?_⟩
    · have hlt := ho.ltX hx
      exact hgr.block b hlt (hnew (hge hx) hlt).1
    · have hlt := ho.ltX hx
      have := hge hx
      exact ⟨by omega, by omega, fun e => (hnew (hge hx) hlt).2 (by simpa [Value.ownBlock] using e.symm)⟩
  refine ⟨_, fun j => if j = 3 * k then a0 else if j = 3 * k + 1 then a1 else if j = 3 * k + 2 then a2 else A j, fun j => if j = 3 * k then b0 else if j = 3 * k + 1 then b1 else if j = 3 * k + 2 then b2 else f j, fun j => if j = 3 * k then c0 else if j = 3 * k + 1 then c1 else if j = 3 * k + 2 then c2 else cap j, by rw [List.length_append, hkl]; simp; omega, hown, fun j hj => ?_, fun i j hij hj hi0 hj0 => ?_⟩
  · by_cases j0 : j = 3 * k
    · subst j0
      simp only [if_true]
      rw [K0, o0.1]
      refine ⟨by rw [List.getElem?_append_right (by omega), hcl]; simp, (one o0 g0).1, (one o0 g0).2⟩
    · by_cases j1 : j = 3 * k + 1
      · subst j1
        simp only [if_neg j0, if_true]
        rw [K1, o1.1]
        refine ⟨by rw [List.getElem?_append_right (by omega), hcl]; simp [show 3 * k + 1 - 3 * k = 1 by omega], (one o1 g1).1, (one o1 g1).2⟩
      · by_cases j2 : j = 3 * k + 2
        · subst j2
          simp only [if_neg j0, if_neg j1, if_true]
          rw [K2, o2.1]
          refine ⟨by rw [List.getElem?_append_right (by omega), hcl]; simp [show 3 * k + 2 - 3 * k = 2 by omega], (one o2 g2).1, (one o2 g2).2⟩
        · simp only [if_neg j0, if_neg j1, if_neg j2]
          have hlt : j < 3 * k := by omega
          obtain ⟨q1, q2, q3⟩ := h.tri j hlt
          rw [Kold j hlt]
          refine ⟨by rw [List.getElem?_append_left (by omega)]; exact q1, (q2.grow hb).movedX fun hx => ?_, fun hx => ?_⟩
          · obtain ⟨r1, r2, r3⟩ := q3 hx
            exact hgr.block (f j) (by omega) (fun e => r3 e.symm)
          · obtain ⟨r1, r2, r3⟩ := q3 hx
            refine ⟨r1, by omega, fun e => ?_⟩
            have e' : g = f j := by simpa [Value.ownBlock] using e
            rcases hl with hl | hl
            · rw [e'] at hl; exact r3 hl
            · omega
  · have hfw : ∀ j, j < 3 * k → K.getD j [] ≠ [] → f j < w.heap.size := fun j hj hx => ((h.tri j hj).2.2 hx).2.1
    by_cases j0 : j = 3 * k
    · subst j0
      simp only [if_neg (show i ≠ 3 * k by omega), if_neg (show i ≠ 3 * k + 1 by omega), if_neg (show i ≠ 3 * k + 2 by omega), if_true]
      rw [Kold i hij] at hi0
      rw [K0] at hj0
      have := hfw i hij hi0; have := g0 hj0; omega
    · by_cases j1 : j = 3 * k + 1
      · subst j1
        simp only [if_neg j0, if_true]
        rw [K1] at hj0
        by_cases i0 : i = 3 * k
        · subst i0; simp only [if_true]; rw [K0] at hi0; exact d01 hi0 hj0
        · simp only [if_neg i0, if_neg (show i ≠ 3 * k + 1 by omega), if_neg (show i ≠ 3 * k + 2 by omega)]
          rw [Kold i (by omega)] at hi0
          have := hfw i (by omega) hi0; have := g1 hj0; omega
      · by_cases j2 : j = 3 * k + 2
        · subst j2
          simp only [if_neg j0, if_neg j1, if_true]
          rw [K2] at hj0
          by_cases i0 : i = 3 * k
          · subst i0; simp only [if_true]; rw [K0] at hi0; exact d02 hi0 hj0
          · by_cases i1 : i = 3 * k + 1
            · subst i1; simp only [if_neg i0, if_true]; rw [K1] at hi0; exact d12 hi0 hj0
            · simp only [if_neg i0, if_neg i1, if_neg (show i ≠ 3 * k + 2 by omega)]
              rw [Kold i (by omega)] at hi0
              have := hfw i (by omega) hi0; have := g2 hj0; omega
        · simp only [if_neg j0, if_neg j1, if_neg j2, if_neg (show i ≠ 3 * k by omega), if_neg (show i ≠ 3 * k + 1 by omega), if_neg (show i ≠ 3 * k + 2 by omega)]
          rw [Kold i (by omega)] at hi0
          rw [Kold j (by omega)] at hj0
          exact h.apart i j hij (by omega) hi0 hj0

/-- It can be read. -/
theorem TriX.lists {w : World} {lo : Nat} {v : Value} {k : Nat} {K : List (List Int)} (h : TriX w lo v k K) (hs : sizeN k K ≤ 1048576) : ∃ a c, v = .slice a k c ∧ Lists w a (3 * k) K := by
  obtain ⟨cells, A, f, cap, h1, h2, h3, h4⟩ := h
  have hcl : cells.length = 3 * k := by have := h2.1; omega
  rcases h2.2 with ⟨e, h0⟩ | ⟨g, cp, cur, e, hg, hh, _, _, hsz, htk⟩
  · subst h0
    exact ⟨none, 0, e, h1, .inl rfl⟩
  · refine ⟨_, cp, e, h1, .inr ⟨g, 0, rfl, (Array.getElem?_eq_some_iff.mp hh).1, fun j hj => ?_⟩⟩
    obtain ⟨q1, q2, q3⟩ := h3 j hj
    have hlen := len_le K j
    refine ⟨A j, (K.getD j []).length, cap j, ?_, ?_, q2.row⟩
    · rw [cell_of_row w g (0 + j) cur _ _ hh, Nat.zero_add]
      have e2 : (cur.toList.take (k * 3))[j]? = cells[j]? := by rw [htk]
      rw [List.getElem?_take_of_lt (by omega), Array.getElem?_toList] at e2
      rw [e2, q1]
    · unfold sizeN at hs; unfold maxLen; omega

/-- It can be marked. -/
theorem TriX.netG {w : World} {lo : Nat} {v : Value} {k : Nat} {K : List (List Int)} (h : TriX w lo v k K) : ∃ a B c, v = .slice a k c ∧ (k = 0 ∨ (lo ≤ B ∧ B < w.heap.size)) ∧ NetG w a B lo w.heap.size k (fun j => K.getD j []) := by
  obtain ⟨cells, A, f, cap, h1, h2, h3, h4⟩ := h
  have hcl : cells.length = 3 * k := by have := h2.1; omega
  rcases h2.2 with ⟨e, h0⟩ | ⟨g, cp, cur, e, hg, hh, hc1, _, hsz, htk⟩
  · subst h0
    exact ⟨none, 0, 0, e, .inl rfl, .inl rfl⟩
  · refine ⟨_, g, cp, e, .inr ⟨hg, (Array.getElem?_eq_some_iff.mp hh).1⟩, .inr ⟨rfl, cur, A, f, cap, hh, by omega, fun j hj => ?_, h4⟩⟩
    obtain ⟨q1, q2, q3⟩ := h3 j hj
    refine ⟨?_, q2, fun hx => ⟨(q3 hx).1, (q3 hx).2.1, fun e2 => (q3 hx).2.2 (by rw [e, e2]; rfl)⟩⟩
    have e2 : (cur.toList.take (k * 3))[j]? = cells[j]? := by rw [htk]
    rw [List.getElem?_take_of_lt (by omega), Array.getElem?_toList] at e2
    rw [e2, q1]

/-- What was made with make and filled. -/
theorem TriX.made {w : World} {B lo n : Nat} {K : List (List Int)} {C : Array Value} {A : Nat → Option Addr} {f cap : Nat → Nat} (hl : K.length = 3 * n) (hh : w.heap[B]? = some (.cells C 56 (0, 0))) (hC : C.size = n * 3) (hB : lo ≤ B) (hn : n ≤ maxLen)
    (h3 : ∀ j, j < 3 * n → C[j]? = some (.slice (A j) (K.getD j []).length (cap j)) ∧ Ob w (A j) (f j) (K.getD j []).length (K.getD j []) ∧ (K.getD j [] ≠ [] → lo ≤ f j ∧ f j < w.heap.size ∧ f j ≠ B)) (h4 : ∀ i j, i < j → j < 3 * n → K.getD i [] ≠ [] → K.getD j [] ≠ [] → f i ≠ f j) :
    TriX w lo (.slice (some ⟨B, 0, none⟩) n n) n K := by
  refine ⟨C.toList, A, f, cap, hl, ⟨by simp [hC], .inr ⟨B, n, C, rfl, hB, hh, Nat.le_refl _, hn, hC, by rw [List.take_of_length_le (by simp [hC])]⟩⟩, fun j hj => ?_, h4⟩
  obtain ⟨q1, q2, q3⟩ := h3 j hj
  exact ⟨by rw [Array.getElem?_toList]; exact q1, q2, fun hx => ⟨(q3 hx).1, (q3 hx).2.1, fun e => (q3 hx).2.2 (by simpa [Value.ownBlock] using e.symm)⟩⟩
end Go.Proofs.Ytnknhjiofpjbbaa
