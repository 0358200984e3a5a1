/- l1InOrder: a mark is put to its place, once. -/
import Derived.Test.YteanbjhlfplojaaLj
import Derived.Test.YteanbjhlfplojaaFs
import Derived.Test.YteanbjhlfplojaaLq
namespace Go.Proofs.Yteanbjhlfplojaa
open Go.RowKit
set_option maxRecDepth 10000

/-- A row of lists that append made, out of lists that were there. -/
structure SlSt (D : Nat) (u v : World) (o : Value) (q : Nat) (cs : List Value) (X : List (List Int)) (n : Nat) : Prop where
  own : v.ownsRow D 30 1 o q cs
  cell : ∀ j, j < q → ∃ a c, cs[j]? = some (.slice a n c) ∧ Row u a n (X.getD j [])
  len : X.length = q
  bel : Below D u v
  low : D ≤ v.heap.size

theorem SlSt.grow {D n q : Nat} {u v v' : World} {o : Value} {cs : List Value} {X : List (List Int)} (h : SlSt D u v o q cs X n) (hb : Below v.heap.size v v') : SlSt D u v' o q cs X n :=
  ⟨own_grow2 h.own hb, h.cell, h.len, h.bel.trans (hb.mono h.low), Nat.le_trans h.low hb.size⟩

theorem SlSt.step {D n q : Nat} {u v v' : World} {o o' : Value} {cs : List Value} {X : List (List Int)} {x : List Int} {a : Option Addr} {c : Nat} (h : SlSt D u v o q cs X n) (hr : Row u a n x)
    (r1 : v'.ownsRow D 30 1 o' (q + 1) (cs ++ [.slice a n c])) (r2 : v.grownBy v' o.ownBlock) : SlSt D u v' o' (q + 1) (cs ++ [.slice a n c]) (X ++ [x]) n := by
  have hcl : cs.length = q := by have := h.own.1; omega
  refine ⟨r1, fun j hj => ?_, by simp [h.len], h.bel.grown r2 h.low fun k hk => (h.own.lt k hk).1, Nat.le_trans h.low r2.size⟩
  have hxl := h.len
  by_cases hjq : j < q
  · obtain ⟨a', c', h1, h2⟩ := h.cell j hjq
    refine ⟨a', c', by rw [List.getElem?_append_left (by omega)]; exact h1, ?_⟩
    rw [List.getD_eq_getElem?_getD, List.getElem?_append_left (by omega), ← List.getD_eq_getElem?_getD]
    exact h2
  · obtain rfl : j = q := by omega
    refine ⟨a, c, by rw [List.getElem?_append_right (by omega)]; simp [hcl], ?_⟩
    rw [List.getD_eq_getElem?_getD, List.getElem?_append_right (by omega)]
    simpa [hxl] using hr

theorem SlSt.lists {D n q : Nat} {u v : World} {o : Value} {cs : List Value} {X : List (List Int)} (h : SlSt D u v o q cs X n) (hn : n ≤ 16) (hD : u.heap.size = D) : ∃ a c, o = .slice a q c ∧ Lists v a q X := by
  have hcl : cs.length = q := by have := h.own.1; omega
  rcases h.own.2 with ⟨rfl, rfl⟩ | ⟨g, cap, cur, rfl, hb, hh, hnc, _, hsz, ht⟩
  · exact ⟨none, 0, rfl, h.len, .inl rfl⟩
  · refine ⟨_, cap, rfl, h.len, .inr ⟨g, 0, rfl, (Array.getElem?_eq_some_iff.mp hh).1, fun j hj => ?_⟩⟩
    obtain ⟨a, c, h1, h2⟩ := h.cell j hj
    refine ⟨a, n, c, ?_, by unfold maxLen; omega, h2.below (by rw [hD]; exact h.bel)⟩
    rw [cell_of_row v g _ _ _ _ hh, Nat.zero_add, ← Array.getElem?_toList, ← h1, ← ht, List.getElem?_take_of_lt (by omega)]

/-- Where putting a mark to its place is, behind the first k. -/
def InsUpto (n : Nat) (m : List Int) (O : List (List Int)) (k : Nat) (pb : Bool) (X : List (List Int)) : Prop :=
  if pb = true then ∃ j, j < k ∧ X = O.take j ++ m :: (O.take k).drop j ∧ (∀ x ∈ O.take j, 0 < cmpL n m x) ∧ ∀ x ∈ (O.take k).drop j, cmpL n m x < 0
  else X = O.take k ∧ ∀ x ∈ O.take k, 0 < cmpL n m x

theorem InsUpto.first (n : Nat) (m : List Int) (O : List (List Int)) : InsUpto n m O 0 false [] := by
  unfold InsUpto; rw [if_neg (by decide)]; simp

theorem drop_take_succ {O : List (List Int)} {j k : Nat} (hj : j ≤ k) (hk : k < O.length) : (O.take (k + 1)).drop j = (O.take k).drop j ++ [O.getD k []] := by
  rw [take_getD hk, List.drop_append_of_le_length (by rw [List.length_take]; omega)]

theorem InsUpto.put {n k : Nat} {m : List Int} {O X : List (List Int)} (h : InsUpto n m O k false X) (hk : k < O.length) (hc : cmpL n m (O.getD k []) < 0) : InsUpto n m O (k + 1) true (X ++ [m] ++ [O.getD k []]) := by
  unfold InsUpto at *
  rw [if_neg (by decide)] at h
  rw [if_pos rfl]
  have e : (O.take (k + 1)).drop k = [O.getD k []] := by
    rw [drop_take_succ (Nat.le_refl k) hk, List.drop_eq_nil_of_le (by rw [List.length_take]; omega)]; rfl
  refine ⟨k, by omega, by rw [e, h.1]; simp, h.2, fun x hx => ?_⟩
  rw [e] at hx
  obtain rfl := List.mem_singleton.mp hx
  exact hc

theorem InsUpto.past {n k : Nat} {m : List Int} {O X : List (List Int)} (h : InsUpto n m O k true X) (hk : k < O.length) (hc : cmpL n m (O.getD k []) < 0) : InsUpto n m O (k + 1) true (X ++ [O.getD k []]) := by
  unfold InsUpto at *
  rw [if_pos rfl] at *
  obtain ⟨j, h1, h2, h3, h4⟩ := h
  refine ⟨j, by omega, by rw [drop_take_succ (by omega) hk, h2]; simp, h3, fun x hx => ?_⟩
  rw [drop_take_succ (by omega) hk] at hx
  rcases List.mem_append.mp hx with hx | hx
  · exact h4 x hx
  · obtain rfl := List.mem_singleton.mp hx
    exact hc

theorem InsUpto.ahead {n k : Nat} {m : List Int} {O X : List (List Int)} (h : InsUpto n m O k false X) (hk : k < O.length) (hc : 0 < cmpL n m (O.getD k [])) : InsUpto n m O (k + 1) false (X ++ [O.getD k []]) := by
  unfold InsUpto at *
  rw [if_neg (by decide)] at *
  refine ⟨by rw [take_getD hk, h.1], fun x hx => ?_⟩
  rw [take_getD hk] at hx
  rcases List.mem_append.mp hx with hx | hx
  · exact h.2 x hx
  · obtain rfl := List.mem_singleton.mp hx
    exact hc

theorem InsUpto.sure {n k : Nat} {m : List Int} {O X : List (List Int)} (h : InsUpto n m O k true X) (hs : SortL n O) (hk : k < O.length) : cmpL n m (O.getD k []) < 0 := by
  unfold InsUpto at h
  rw [if_pos rfl] at h
  obtain ⟨j, h1, _, _, h4⟩ := h
  have hj : O.getD j [] ∈ (O.take k).drop j := by
    rw [List.mem_iff_getElem]
    refine ⟨0, by rw [List.length_drop, List.length_take]; omega, ?_⟩
    simp [show j < O.length by omega]
  have h5 := h4 _ hj
  have h6 := (List.pairwise_iff_getElem.mp hs) j k (by omega) hk h1
  refine cmpL_lt h5 (Int.le_of_lt ?_)
  simpa [hk, show j < O.length by omega] using h6

theorem InsUpto.done {n : Nat} {m : List Int} {O X : List (List Int)} (h : InsUpto n m O O.length true X) : Ins n m O X := by
  unfold InsUpto at h
  rw [if_pos rfl] at h
  obtain ⟨j, h1, h2, h3, h4⟩ := h
  rw [List.take_length] at h2 h4
  exact .inr ⟨j, by omega, h2, h3, h4⟩

theorem InsUpto.last {n : Nat} {m : List Int} {O X : List (List Int)} (h : InsUpto n m O O.length false X) : Ins n m O (X ++ [m]) := by
  unfold InsUpto at h
  rw [if_neg (by decide)] at h
  rw [List.take_length] at h
  exact .inr ⟨O.length, Nat.le_refl _, by rw [h.1]; simp, by rw [List.take_length]; exact h.2, fun x hx => by simp at hx⟩
end Go.Proofs.Yteanbjhlfplojaa
