/- l1Put: a number put to its place in a list, once; the list that is answered is the one that came, or a new one. -/
import Derived.Test.YteanbjhlfplojaaOw
namespace Go.Proofs.Yteanbjhlfplojaa
open Go.RowKit
set_option maxRecDepth 10000

/-- append, whatever is appended: nil, empty or not. -/
theorem wpList_append_any {P : Program} (w : World) {ops : Array Oper} {rest : List Oper} {o : Oper} {a : Act} {Q : Exit → Act → World → Prop} (hgd : o.guard = none) (s x : Operand) (t : TypeId)
    (ho : o.op = .call { callee := .builtin .append, args := #[s, x], argTypes := #[t, t] })
    (base : Nat) (e : TypeId) (i : TypeInfo) (z : Value) (size bytes : Nat) (ht : P.underlying t = some (.slice e)) (hi : P.info? e = some i) (hz : i.zero = some z)
    (hsize : i.size = size) (hby : i.bytes = bytes) (hzs : z.cells.size = size) (hsz : 0 < size)
    (v : Value) (n : Nat) (xs : List Value) (hs : a.eval s = v) (hown : w.ownsRow base e size v n xs)
    (ao : Option Addr) (m c : Nat) (news : List Value) (hx : a.eval x = .slice ao m c) (hl : news.length = m * size) (hnone : ao = none → m = 0 ∧ c = 0)
    (hnews : ∀ ad, ao = some ad → ∀ j u, news[j]? = some u → w.cell? (ad.add j) = some u) (h1 : ∀ u ∈ news, u.oneCell' = true)
    (h63 : n + m ≤ maxLen) (hbytes : (n + m) * bytes ≤ 140737488355328) (hbase : base ≤ w.heap.size)
    (h : ∀ v' w', w'.ownsRow base e size v' (n + m) (xs ++ news) → w.grownBy w' v.ownBlock → wpList P ops Q rest (a.put o.dst v') w') : wpList P ops Q (o :: rest) a w := by
  cases ao with
  | some ad => exact wpList_append_own w hgd s x t ho base e i z size bytes ht hi hz hsize hby hzs hsz v n xs hs hown ad m c news hx hl (hnews ad rfl) h1 h63 hbytes hbase fun v' w' r1 r2 _ => h v' w' r1 r2
  | none =>
    obtain ⟨rfl, rfl⟩ := hnone rfl
    have hnews : news = [] := List.eq_nil_of_length_eq_zero (by simpa using hl)
    subst hnews
    refine wpList_plain hgd fun K hK' => ?_
    have hrun := run_append_owned_none (P := P) w base t o.type e i size ht hi _ n xs hown
    unfold Oper.wp
    simp [execOp, ho, resolve, invoke, builtin, hs, hx, hrun, Result.andThen]
    exact hK' _ _ (by simpa using h v w (by simpa using hown) (World.grownBy.refl _ _))

/-- How l1Put ends. -/
def PutEnd (n b : Nat) (w : World) (e : Ending) (w' : World) : Prop :=
  ∃ g n' c' ys, e = .returned (.slice (some ⟨g, 0, none⟩) n' c') ∧ 1 ≤ n' ∧ n' ≤ n + 1 ∧ n' ≤ c' ∧ c' ≤ maxLen ∧ Row w' (some ⟨g, 0, none⟩) n' ys ∧ (g = b ∨ w.heap.size ≤ g) ∧ Below w.heap.size w w'

theorem cells_upto {w : World} {a : Option Addr} {l i : Nat} {A : List Int} (h : Row w a l A) (hi : i ≤ l) : ∀ ad, a = some ad → ∀ t u, ((A.take i).map (Value.int .i64))[t]? = some u → w.cell? (ad.add t) = some u := by
  intro ad had t u hu
  have hA := h.1
  have ht : t < i := by
    have := (List.getElem?_eq_some_iff.1 hu).1
    simp at this; omega
  rcases h.2 with h0 | ⟨b, off, e, hl, hc⟩
  · omega
  · rw [e] at had
    obtain rfl := Option.some.inj had
    rw [Addr.add_mid, hc t (by omega), ← hu]
    simp [ht, show t < A.length by omega]

theorem cells_behind {w : World} {a : Option Addr} {l i : Nat} {A : List Int} (h : Row w a l A) (hi : i < l) : ∀ b off, a = some ⟨b, off, none⟩ → ∀ t u, ((A.drop i).map (Value.int .i64))[t]? = some u → w.cell? ((⟨b, off + i, none⟩ : Addr).add t) = some u := by
  intro b off had t u hu
  have hA := h.1
  have ht : t < l - i := by
    have := (List.getElem?_eq_some_iff.1 hu).1
    simp at this; omega
  rcases h.2 with h0 | ⟨b', off', e, hl, hc⟩
  · omega
  · rw [e] at had
    obtain ⟨rfl, rfl⟩ : b' = b ∧ off' = off := by simpa using had
    rw [Addr.add_mid, Nat.add_assoc, hc (i + t) (by omega), ← hu]
    simp [show i + t < A.length by omega]

theorem ownsRow_row2 {B : Nat} {w : World} {v : Value} {n : Nat} {l : List Int} (hown : w.ownsRow B 3 1 v n (l.map (Value.int .i64))) : ∃ a c, v = .slice a n c ∧ Row w a n l := by
  have hl : l.length = n := by have := hown.1; simpa using this
  rcases hown.2 with ⟨rfl, rfl⟩ | ⟨g, cap, cur, rfl, hb, hh, hnc, _, hsz, ht⟩
  · exact ⟨none, 0, rfl, hl, .inl rfl⟩
  · refine ⟨_, cap, rfl, hl, .inr ⟨g, 0, rfl, (Array.getElem?_eq_some_iff.mp hh).1, fun i hi => ?_⟩⟩
    rw [cell_of_row w g (0 + i) _ _ _ hh, Nat.zero_add]
    have e1 : (cur.toList.take (n * 1))[i]? = some (.int .i64 (l.getD i 0)) := by
      rw [ht]; simp [List.getElem?_map, List.getElem?_eq_getElem (show i < l.length by omega)]
    rw [List.getElem?_take_of_lt (by omega)] at e1
    simpa using e1

theorem putEnd_own {n b m : Nat} {w v : World} {u : Value} {ys : List Int} (hb : Below w.heap.size w v) (hown : v.ownsRow w.heap.size 3 1 u m (ys.map (Value.int .i64))) (hm : 1 ≤ m) (hmn : m ≤ n + 1) : PutEnd n b w (.returned u) v := by
  rcases hown.2 with ⟨_, h0⟩ | ⟨g, cap, cur, rfl, hbg, hh, hnc, hcm, hsz, ht⟩
  · omega
  · obtain ⟨a', c', e, hr⟩ := ownsRow_row2 hown
    obtain ⟨rfl, rfl⟩ : a' = some ⟨g, 0, none⟩ ∧ c' = cap := by simpa [eq_comm] using e
    exact ⟨g, m, _, ys, rfl, hm, hmn, hnc, hcm, hr, .inr hbg, hb⟩

/-- What is there while l1Put builds its list. -/
structure PutSt (w v : World) (u : Value) (m : Nat) (ys : List Int) : Prop where
  own : v.ownsRow w.heap.size 3 1 u m (ys.map (Value.int .i64))
  bel : Below w.heap.size w v

theorem PutSt.first (w : World) : PutSt w (w.alloc (.cells #[] 3)) (.slice (some ⟨w.heap.size, 0, none⟩) 0 0) 0 [] :=
  ⟨⟨rfl, .inr ⟨w.heap.size, 0, #[], rfl, Nat.le_refl _, heap_alloc_new _ _, Nat.le_refl _, Nat.zero_le _, rfl, rfl⟩⟩, below_al w _⟩
theorem PutSt.alloc {w v : World} {u : Value} {m : Nat} {ys : List Int} (h : PutSt w v u m ys) (o : Obj) : PutSt w (v.alloc o) u m ys := ⟨h.own.alloc o, h.bel.trans ((below_al v o).mono h.bel.size)⟩
theorem PutSt.step {w v v' : World} {u u' : Value} {m q : Nat} {ys zs : List Int} (h : PutSt w v u m ys) (r1 : v'.ownsRow w.heap.size 3 1 u' (m + q) (ys.map (Value.int .i64) ++ zs.map (Value.int .i64))) (r2 : v.grownBy v' u.ownBlock) : PutSt w v' u' (m + q) (ys ++ zs) :=
  ⟨by rw [List.map_append]; exact r1, h.bel.grown r2 h.bel.size fun k hk => (h.own.lt k hk).1⟩
theorem PutSt.done {w v : World} {u : Value} {m n b : Nat} {ys : List Int} (h : PutSt w v u m ys) (hm : 1 ≤ m) (hmn : m ≤ n + 1) : PutEnd n b w (.returned u) v := putEnd_own h.bel h.own hm hmn

end Go.Proofs.Yteanbjhlfplojaa
