/- What the cursor's mark and the Draw functions of chapter 1 answer: some number of places in 0..17 and some lists in new memory, of at most eighteen numbers, whatever the bytes; nothing that was there is written. -/
import Derived.Test.YtbobppcnmpiacaaCur
namespace Go.Proofs.Ytbobppcnmpiacaa
open Go.RowKit

theorem ownsRow_only {w w' : World} {B bc : Nat} {v : Value} {n : Nat} {l : List Value} (h : w.ownsRow B 3 1 v n l) (ho : OnlyC bc w w') (hb : bc < B) : w'.ownsRow B 3 1 v n l := by
  refine ⟨h.1, ?_⟩
  rcases h.2 with h0 | ⟨g, cap, cur, hv, hB, hh, r⟩
  · exact .inl h0
  · exact .inr ⟨g, cap, cur, hv, hB, (ho.block g (by omega)).trans hh, r⟩

/-- What holds while a mark is drawn: w ahead of the call, v now; k numbers have been laid into o. -/
structure MarkSt (w v : World) (bc : Nat) (ca : Option Addr) (cn cc p : Nat) (bs : List Int) (o : Value) (k : Nat) : Prop where
  own : ∃ xs : List Int, v.ownsRow w.heap.size 3 1 o k (xs.map (Value.int .i64))
  cur : Cur v bc ca cn cc p
  bytes : RowB v ca cn bs
  kept : Kept bc w.heap.size w v

theorem MarkSt.only {w v v' : World} {bc : Nat} {ca : Option Addr} {cn cc p p' : Nat} {bs : List Int} {o : Value} {k : Nat} (h : MarkSt w v bc ca cn cc p bs o k) (ho : OnlyC bc v v') (hc : Cur v' bc ca cn cc p') (hap : Apart ca cn bc) (hb : bc < w.heap.size) :
    MarkSt w v' bc ca cn cc p' bs o k := by
  obtain ⟨xs, hx⟩ := h.own
  exact ⟨⟨xs, ownsRow_only hx ho hb⟩, hc, h.bytes.keep ho hap, h.kept.trans (Kept.of_only ho)⟩

theorem MarkSt.alloc {w v : World} {bc : Nat} {ca : Option Addr} {cn cc p : Nat} {bs : List Int} {o : Value} {k : Nat} (h : MarkSt w v bc ca cn cc p bs o k) (ob : Obj) (hap : Apart ca cn bc) :
    MarkSt w (v.alloc ob) bc ca cn cc p bs o k := by
  obtain ⟨xs, hx⟩ := h.own
  have hb := (Below.refl v.heap.size v).alloc (Nat.le_refl _) ob
  exact ⟨⟨xs, hx.alloc ob⟩, h.cur.below hb h.cur.lt, h.bytes.kept (Kept.of_below hb) hap, h.kept.trans ((Kept.of_below hb).mono h.kept.size)⟩

theorem MarkSt.append {w v v' : World} {bc : Nat} {ca : Option Addr} {cn cc p : Nat} {bs : List Int} {o o' : Value} {k : Nat} {xs : List Int} {x : Int} (h : MarkSt w v bc ca cn cc p bs o k) (hx : v.ownsRow w.heap.size 3 1 o k (xs.map (Value.int .i64)))
    (hn : v'.ownsRow w.heap.size 3 1 o' (k + 1) (xs.map (Value.int .i64) ++ [.int .i64 x])) (hg : v.grownBy v' o.ownBlock) (hb : bc < w.heap.size) (hfar : 0 < cn → ∀ y, ca = some y → y.block < w.heap.size) :
    MarkSt w v' bc ca cn cc p bs o' (k + 1) := by
  have hbl : Below w.heap.size v v' := by
    refine (Below.refl w.heap.size v).grown hg h.kept.size fun j hj => ?_
    exact (hx.lt j hj).1
  refine ⟨⟨xs ++ [x], by rw [List.map_append]; exact hn⟩, h.cur.below hbl hb, ?_, h.kept.trans (Kept.of_below hbl)⟩
  refine ⟨h.bytes.1, h.bytes.2.1, ?_⟩
  rcases h.bytes.2.2 with h0 | ⟨b, off, e, hl, hc⟩
  · exact .inl h0
  · exact .inr ⟨b, off, e, Nat.lt_of_lt_of_le hl hbl.size, fun i hi => (World.cell?_of_block (hbl.block b (hfar (by omega) _ e))).trans (hc i hi)⟩

/-- How mark ends. -/
def MarkEnd (bc : Nat) (ca : Option Addr) (cn cc p : Nat) (bs : List Int) (w : World) (e : Ending) (w' : World) : Prop :=
  ∃ a n c xs p', e = .returned (.slice a n c) ∧ n ≤ 18 ∧ p' ≤ p + 60 ∧ Row w' a n xs ∧ Apart a n bc ∧ Cur w' bc ca cn cc p' ∧ RowB w' ca cn bs ∧ Kept bc w.heap.size w w'

theorem ownsRow_row' {B : Nat} {w : World} {v : Value} {n : Nat} {l : List Int} (hown : w.ownsRow B 3 1 v n (l.map (Value.int .i64))) : ∃ a c, v = .slice a n c ∧ Row w a n l := by
  have hl : l.length = n := by have := hown.1; simpa using this
  rcases hown.2 with ⟨rfl, rfl⟩ | ⟨g, cap, cur, rfl, hb, hh, hnc, _, hsz, ht⟩
  · exact ⟨none, 0, rfl, hl, .inl rfl⟩
  · refine ⟨_, cap, rfl, hl, .inr ⟨g, 0, rfl, (Array.getElem?_eq_some_iff.mp hh).1, fun i hi => ?_⟩⟩
    rw [cell_of_row w g (0 + i) _ _ _ hh, Nat.zero_add]
    have e1 : (cur.toList.take (n * 1))[i]? = some (.int .i64 (l.getD i 0)) := by
      rw [ht]; simp [List.getElem?_map, List.getElem?_eq_getElem (show i < l.length by omega)]
    rw [List.getElem?_take_of_lt (by omega)] at e1
    simpa using e1

theorem MarkSt.done {w v : World} {bc : Nat} {ca : Option Addr} {cn cc p q : Nat} {bs : List Int} {o : Value} {k : Nat} (h : MarkSt w v bc ca cn cc q bs o k) (hk : k ≤ 18) (hq : q ≤ p + 60) (hb : bc < w.heap.size) : MarkEnd bc ca cn cc p bs w (.returned o) v := by
  obtain ⟨xs, hx⟩ := h.own
  have hlt := hx.lt
  obtain ⟨a, c, rfl, hr⟩ := ownsRow_row' hx
  refine ⟨a, k, c, xs, q, rfl, hk, hq, hr, fun _ x hx => ?_, h.cur, h.bytes, h.kept⟩
  subst hx
  have := (hlt x.block rfl).1
  omega

/-- .. and the list lies in new memory. -/
def MarkEndW (bc : Nat) (ca : Option Addr) (cn cc p : Nat) (bs : List Int) (w : World) (e : Ending) (w' : World) : Prop :=
  ∃ a n c xs p', e = .returned (.slice a n c) ∧ n ≤ 18 ∧ p' ≤ p + 60 ∧ Row w' a n xs ∧ (0 < n → ∀ x, a = some x → w.heap.size ≤ x.block) ∧ Cur w' bc ca cn cc p' ∧ RowB w' ca cn bs ∧ Kept bc w.heap.size w w'

theorem MarkSt.doneW {w v : World} {bc : Nat} {ca : Option Addr} {cn cc p q : Nat} {bs : List Int} {o : Value} {k : Nat} (h : MarkSt w v bc ca cn cc q bs o k) (hk : k ≤ 18) (hq : q ≤ p + 60) (_hb : bc < w.heap.size) : MarkEndW bc ca cn cc p bs w (.returned o) v := by
  obtain ⟨xs, hx⟩ := h.own
  have hlt := hx.lt
  obtain ⟨a, c, rfl, hr⟩ := ownsRow_row' hx
  refine ⟨a, k, c, xs, q, rfl, hk, hq, hr, fun _ x hx => ?_, h.cur, h.bytes, h.kept⟩
  subst hx
  exact (hlt x.block rfl).1

/-- How a function ends that draws a number of places and a list. -/
def DrawEnd1 (w : World) (e : Ending) (w' : World) : Prop :=
  ∃ (p : Int) (a : Option Addr) (n c : Nat) (xs : List Int), e = .returned (.tuple #[.int .i64 p, .slice a n c]) ∧ n ≤ 18 ∧ Row w' a n xs ∧ Below w.heap.size w w'

/-- .. and two lists. -/
def DrawEnd2 (w : World) (e : Ending) (w' : World) : Prop :=
  ∃ (p : Int) (a : Option Addr) (n c : Nat) (xs : List Int) (b : Option Addr) (m d : Nat) (ys : List Int), e = .returned (.tuple #[.int .i64 p, .slice a n c, .slice b m d]) ∧ n ≤ 18 ∧ m ≤ 18 ∧ Row w' a n xs ∧ Row w' b m ys ∧ Below w.heap.size w w'

theorem RowB.below {w w' : World} {a : Option Addr} {n : Nat} {xs : List Int} (h : RowB w a n xs) (hb : Below w.heap.size w w') : RowB w' a n xs := by
  refine ⟨h.1, h.2.1, ?_⟩
  rcases h.2.2 with h0 | ⟨b, off, e, hl, hc⟩
  · exact .inl h0
  · exact .inr ⟨b, off, e, Nat.lt_of_lt_of_le hl hb.size, fun i hi => (hb.cell (p := ⟨b, off + i, none⟩) hl).trans (hc i hi)⟩

theorem RowB.far {w : World} {ca : Option Addr} {cn : Nat} {bs : List Int} (h : RowB w ca cn bs) (h0 : 0 < cn) (y : Addr) (hy : ca = some y) : y.block < w.heap.size := by
  rcases h.2.2 with h1 | ⟨b, off, e, hl, _⟩
  · omega
  · rw [e] at hy; obtain rfl := Option.some.inj hy; exact hl



end Go.Proofs.Ytbobppcnmpiacaa
