/- Contracts that the proof stands on, one behind the other. -/
import Derived.Test.YtajcmamapmeglaaP17
import Derived.Deep.AppendLies
/- someOf of whatever bounds; l1Least. -/
namespace Go.Proofs.Ytajcmamapmeglaa
open Go.RowKit
set_option maxRecDepth 10000

def leastI (a b : Int) : Int := if a < b then a else b

theorem least_any (a b : Int) (w : World) : Calls Try.prog 111 #[.int .i64 a, .int .i64 b] w fun e w' => e = .returned (.int .i64 (leastI a b)) ∧ w' = w := by
  unfold leastI
  by_cases h : a < b
  · rw [if_pos h]
    go_enter Try.func111, Try.ntmps111
    go_wp2_with fail
    go_ret
    exact ⟨rfl, rfl⟩
  · rw [if_neg h]
    go_enter Try.func111, Try.ntmps111
    go_wp2_with fail
    go_ret
    exact ⟨rfl, rfl⟩

/-- How someOf ends, of whatever bounds. -/
def SomeEndG (hi bc : Nat) (ca : Option Addr) (cn cc p : Nat) (bs : List Int) (w : World) (e : Ending) (w' : World) : Prop :=
  ∃ a n c xs p', e = .returned (.slice a n c) ∧ n ≤ hi ∧ NewL w.heap.size w' a n c xs ∧ p' ≤ p + 1 + hi ∧ Cur w' bc ca cn cc p' ∧ RowB w' ca cn bs ∧ Kept bc w.heap.size w w'

theorem SomeSt.doneG {w v : World} {bc : Nat} {ca : Option Addr} {cn cc p q hi : Nat} {bs : List Int} {u : Value} {m : Nat} (h : SomeSt w v bc ca cn cc q bs u m) (hm : m ≤ hi) (hq : q ≤ p + 1 + hi) : SomeEndG hi bc ca cn cc p bs w (.returned u) v := by
  obtain ⟨a, n, c, xs, rfl, hn, hl⟩ := h.new
  exact ⟨a, n, c, xs, q, rfl, by omega, hl, hq, h.cur, h.bytes, h.kept⟩

set_option maxHeartbeats 1000000 in
theorem some_drawG (pl lo hi : Nat) (bc : Nat) (ca : Option Addr) (cn cc p : Nat) (bs : List Int) (w : World) (h : Cur w bc ca cn cc p) (hr : RowB w ca cn bs) (hap : Apart ca cn bc) (hp : p ≤ 900000) (hn : cn ≤ 1048576) (hpl : 1 ≤ pl) (hpl2 : pl ≤ 200) (hlo : lo ≤ hi) (hhi : hi ≤ 50) :
    Calls Try.prog 110 #[.pointer (some ⟨bc, 0, none⟩), .int .i64 (pl : Int), .int .i64 (lo : Int), .int .i64 (hi : Int)] w fun e w' => SomeEndG hi bc ca cn cc p bs w e w' := by
  have hbc := h.lt
  have ST := hide (SomeSt.mk (w := w) (u := .slice none 0 0) (m := 0) ⟨none, 0, 0, [], rfl, Nat.le_refl _, .inl ⟨rfl, rfl, rfl, rfl⟩⟩ h hr (Kept.refl bc _ w))
  have HP := hide (pickS_any (hi + 1 - lo) bc ca cn cc p bs w h hr (by omega) hn (by omega) (by omega))
  rw [show ((hi + 1 - lo : Nat) : Int) = (hi : Int) - (lo : Int) + 1 by omega] at HP
  clear h hr
  go_enter Try.func110, Try.ntmps110
  go_wp2_with fail
  refine HP.out.mono ?_
  rintro e v1 ⟨r, p1, rfl, hr, hp1, hcur, ho⟩
  have S1 := hide (ST.out.only ho hcur hap hbc)
  clear hcur ho ST HP
  go_wp2_with fail
  go_loopw [9, 10] (fun u i wr => ∃ k q m : Nat, i = .int .i64 k ∧ k + m ≤ hi ∧ q + k ≤ p + 1 + hi ∧ Hid (SomeSt w wr bc ca cn cc q bs u m)) (fun _ i _ => (intOf i).toNat)
  case atStart => exact ⟨lo + r, p1, 0, by go_num, by omega, by omega, S1⟩
  case round =>
    obtain ⟨k, q, m, rfl, hkm, hq, S0⟩ := hrel
    clear S1
    by_cases hlt : 0 < k
    · have hi1 : (0 : Int) < (k : Int) := by omega
      go_wp2_with fail
      refine (pickS_any pl bc ca cn cc q bs _ S0.out.cur S0.out.bytes (by omega) hn hpl hpl2).mono ?_
      rintro e v2 ⟨x, q2, rfl, hx, hq2, hcur, ho⟩
      have S2 := hide (S0.out.only ho hcur hap hbc)
      clear hcur ho S0
      go_wp2_with fail
      refine (S2.out.put (by omega) _ hap).mono ?_
      rintro e v3 ⟨u', rfl, S3'⟩
      have S3 := hide S3'
      clear S3' S2
      go_wp2_with fail
      go_roundw
      case rel => exact ⟨k - 1, q2, m + 1, by go_num, by omega, by omega, S3⟩
      case measure => simp [intOf]; omega
    · have hk0 : k = 0 := by omega
      subst hk0
      go_wp2_with fail
      go_ret
      exact S0.out.doneG (by omega) (by omega)

theorem NewL.cellR {B g : Nat} {v : World} {a : Option Addr} {n c : Nat} {xs : List Int} (h : NewL B v a n c xs) (hn : n ≤ 2) {B' : Nat} (hB : B' ≤ B) (hg : g < B) : ∃ a' n' c' xs', Value.slice a n c = .slice a' n' c' ∧ n' ≤ 2 ∧ n' ≤ c' ∧ c' ≤ maxLen ∧ Row v a' n' xs' ∧ (0 < n' → ∀ o, a' = some o → B' ≤ o.block ∧ o.block ≠ g) := by
  refine ⟨a, n, c, xs, rfl, hn, ?_, ?_, h.row, fun _ o ho => ?_⟩
  · rcases h with ⟨_, rfl, rfl, _⟩ | ⟨_, _, _, _, h2, _⟩
    · exact Nat.le_refl _
    · exact h2
  · rcases h with ⟨_, _, rfl, _⟩ | ⟨_, _, _, _, _, h2, _⟩
    · exact Nat.zero_le _
    · exact h2
  · have := (h.lt ho).1; omega
end Go.Proofs.Ytajcmamapmeglaa


/- A drawn flow's net: a list of transitions in a row of its own, each of its lists short; several transitions appended at once. -/
namespace Go.Proofs.Ytajcmamapmeglaa
open Go.RowKit
set_option maxRecDepth 10000

def TriW (M B : Nat) (v : World) (u : Value) (cells : List Value) (j : Nat) : Prop :=
  ∃ a n c xs, cells[j]? = some (.slice a n c) ∧ n ≤ M ∧ NewL B v a n c xs ∧ ∀ o, a = some o → u.ownBlock ≠ some o.block

structure NetW (M B : Nat) (v : World) (u : Value) (k : Nat) (cells : List Value) : Prop where
  own : v.ownsRow B 106 3 u k cells
  tris : ∀ j, j < 3 * k → TriW M B v u cells j

theorem NetW.nil {M : Nat} (B : Nat) (v : World) : NetW M B v (.slice none 0 0) 0 [] := ⟨World.ownsRow_nil _ _ _ _, fun j hj => absurd hj (by omega)⟩

theorem NetW.moved {M B : Nat} {v v' : World} {u : Value} {k : Nat} {cells : List Value} (h : NetW M B v u k cells) (hs : v.heap.size ≤ v'.heap.size) (hk : ∀ q, B ≤ q → q < v.heap.size → v'.heap[q]? = v.heap[q]?) : NetW M B v' u k cells := by
  refine ⟨⟨h.own.1, ?_⟩, fun j hj => ?_⟩
  · rcases h.own.2 with hn | ⟨g, cp, cur, e, hg, hh, r⟩
    · exact .inl hn
    · exact .inr ⟨g, cp, cur, e, hg, (hk g hg (Array.getElem?_eq_some_iff.mp hh).1).trans hh, r⟩
  · obtain ⟨a, n, c, xs, e, hn, hl, hd⟩ := h.tris j hj
    exact ⟨a, n, c, xs, e, hn, hl.keep hs fun g hg hlt _ => hk g hg hlt, hd⟩

theorem NetW.kept {M B bc C : Nat} {v v' : World} {u : Value} {k : Nat} {cells : List Value} (h : NetW M B v u k cells) (hk : Kept bc C v v') (hC : v.heap.size ≤ C) (hb : bc < B) : NetW M B v' u k cells :=
  h.moved hk.size fun q hq hl => hk.block q (by omega) (by omega)
theorem NetW.grow {M B : Nat} {v v' : World} {u : Value} {k : Nat} {cells : List Value} (h : NetW M B v u k cells) (hb : Below v.heap.size v v') : NetW M B v' u k cells :=
  h.moved hb.size fun q _ hl => hb.block q hl
theorem NetW.low {M B C : Nat} {v : World} {u : Value} {k : Nat} {cells : List Value} (h : NetW M B v u k cells) (hC : C ≤ B) : NetW M C v u k cells := by
  refine ⟨⟨h.own.1, ?_⟩, fun j hj => ?_⟩
  · rcases h.own.2 with hn | ⟨g, cp, cur, e, hg, r⟩
    · exact .inl hn
    · exact .inr ⟨g, cp, cur, e, by omega, r⟩
  · obtain ⟨a, n, c, xs, e, hn, hl, hd⟩ := h.tris j hj
    exact ⟨a, n, c, xs, e, hn, hl.mono hC, hd⟩

/-- m transitions more are appended. -/
theorem NetW.append {M B : Nat} {v W : World} {u : Value} {k m : Nat} {cells news : List Value} {g cp : Nat} (h : NetW M B v u k cells)
    (hnew : ∀ j, j < 3 * m → ∃ a n c xs, news[j]? = some (.slice a n c) ∧ n ≤ M ∧ NewL B v a n c xs ∧ ∀ o, a = some o → u.ownBlock ≠ some o.block)
    (hown : W.ownsRow B 106 3 (.slice (some ⟨g, 0, none⟩) (k + m) cp) (k + m) (cells ++ news)) (hgr : v.grownBy W u.ownBlock) (hl : u.ownBlock = some g ∨ g = v.heap.size) :
    NetW M B W (.slice (some ⟨g, 0, none⟩) (k + m) cp) (k + m) (cells ++ news) := by
  have hcl : cells.length = 3 * k := by have := h.own.1; omega
  have key : ∀ {a : Option Addr} {n c : Nat} {xs : List Int}, NewL B v a n c xs → (∀ o, a = some o → u.ownBlock ≠ some o.block) → NewL B W a n c xs ∧ ∀ o, a = some o → (Value.slice (some ⟨g, 0, none⟩) (k + m) cp).ownBlock ≠ some o.block := by
    intro a n c xs hn hd
    refine ⟨hn.keep hgr.size fun q hq hlt ⟨o, ho, hoq⟩ => hgr.block q hlt fun e => hd o ho (by rw [hoq]; exact e.symm), fun o ho e => ?_⟩
    have e' : g = o.block := by simpa [Value.ownBlock] using e
    have hlt := (hn.lt ho).2
    rcases hl with hl | hl
    · exact hd o ho (by rw [hl, e'])
    · omega
  refine ⟨hown, fun j hj => ?_⟩
  by_cases hlt : j < 3 * k
  · obtain ⟨a, n, c, xs, e, hn, hl', hd⟩ := h.tris j hlt
    obtain ⟨q1, q2⟩ := key hl' hd
    exact ⟨a, n, c, xs, by rw [List.getElem?_append_left (by omega)]; exact e, hn, q1, q2⟩
  · obtain ⟨a, n, c, xs, e, hn, hl', hd⟩ := hnew (j - 3 * k) (by omega)
    obtain ⟨q1, q2⟩ := key hl' hd
    exact ⟨a, n, c, xs, by rw [List.getElem?_append_right (by omega), hcl]; exact e, hn, q1, q2⟩

theorem NetW.set {M B : Nat} {v : World} {k : Nat} {cells : List Value} {g cp j : Nat} {a : Option Addr} {n c : Nat} {xs : List Int} (h : NetW M B v (.slice (some ⟨g, 0, none⟩) k cp) k cells) (hj : j < 3 * k)
    (hn : NewL B v a n c xs) (hn2 : n ≤ M) (hd : ∀ o, a = some o → o.block ≠ g) : NetW M B (v.setCell ⟨g, j, none⟩ (.slice a n c)) (.slice (some ⟨g, 0, none⟩) k cp) k (cells.set j (.slice a n c)) := by
  have hcl : cells.length = 3 * k := by have := h.own.1; omega
  have hoth : ∀ q, q ≠ g → (v.setCell ⟨g, j, none⟩ (.slice a n c)).heap[q]? = v.heap[q]? := fun q hq => Below.heap_setCell _ _ _ _ hq
  have hsz : v.heap.size ≤ (v.setCell ⟨g, j, none⟩ (.slice a n c)).heap.size := by simp [World.setCell]
  refine ⟨⟨by simpa using h.own.1, ?_⟩, fun i hi => ?_⟩
  · rcases h.own.2 with ⟨e, _⟩ | ⟨g', cp', cur, e, hg, hh, r1, r2, r3, r4⟩
    · simp at e
    · obtain ⟨rfl, rfl⟩ : g = g' ∧ cp = cp' := by simpa using e
      refine .inr ⟨g, cp, _, rfl, hg, heap_setCell_same v g j cur _ _ hh, r1, r2, by simpa using r3, ?_⟩
      rw [← r4]
      simp [List.take_set]
  · obtain ⟨a', n', c', xs', e, hn', hl', hd'⟩ := h.tris i hi
    by_cases hij : i = j
    · subst hij
      exact ⟨a, n, c, xs, by rw [List.getElem?_set_self (by omega)], hn2, hn.keep hsz fun q _ _ ⟨o, ho, hoq⟩ => hoth q (by have := hd o ho; omega), fun o ho e => hd o ho (by simpa [Value.ownBlock, eq_comm] using e)⟩
    · exact ⟨a', n', c', xs', by rw [List.getElem?_set_ne (fun e => hij e.symm)]; exact e, hn', hl'.keep hsz fun q _ _ ⟨o, ho, hoq⟩ => hoth q (by have := hd' o ho; simp [Value.ownBlock] at this; omega), hd'⟩

theorem NetW.wide {M M' B : Nat} {v : World} {u : Value} {k : Nat} {cells : List Value} (h : NetW M B v u k cells) (hM : M ≤ M') : NetW M' B v u k cells :=
  ⟨h.own, fun j hj => by obtain ⟨a, n, c, xs, e, hn, r⟩ := h.tris j hj; exact ⟨a, n, c, xs, e, Nat.le_trans hn hM, r⟩⟩

/-- It can be read. -/
theorem NetW.lists {M B : Nat} {v : World} {u : Value} {k : Nat} {cells : List Value} (h : NetW M B v u k cells) (hk : k ≤ 100) (hM : M ≤ 21) : ∃ a c L, u = .slice a k c ∧ Lists v a (3 * k) L ∧ sizeN k L ≤ 6400 ∧ (∀ o, a = some o → B ≤ o.block) := by
  have hcl : cells.length = 3 * k := by have := h.own.1; omega
  obtain ⟨L, hL, hP⟩ := exists_list (P := fun j x => ∃ a n c, cells[j]? = some (.slice a n c) ∧ n ≤ M ∧ NewL B v a n c x) (3 * k) fun j hj => by
    obtain ⟨a, n, c, xs, e, hn, hl, _⟩ := h.tris j hj
    exact ⟨xs, a, n, c, e, hn, hl⟩
  have hsz : ∀ q, q ≤ 3 * k → sizeL (L.take q) ≤ 21 * q := by
    intro q
    induction q with
    | zero => intro _; simp [sizeL]
    | succ q ih =>
      intro hq
      rw [sizeL_take_succ L q (by omega)]
      obtain ⟨a, n, c, _, hn, hl⟩ := hP q (by omega)
      have := hl.row.1
      have := ih (by omega)
      omega
  have hs : sizeN k L ≤ 6400 := by
    unfold sizeN
    have := hsz (3 * k) (Nat.le_refl _)
    rw [List.take_of_length_le (by omega)] at this
    omega
  rcases h.own.2 with ⟨e, h0⟩ | ⟨g, cp, cur, e, hg, hh, _, _, hsc, htk⟩
  · subst h0
    exact ⟨none, 0, L, e, ⟨hL, .inl rfl⟩, hs, fun o ho => by cases ho⟩
  · refine ⟨_, cp, L, e, ⟨hL, .inr ⟨g, 0, rfl, (Array.getElem?_eq_some_iff.mp hh).1, fun j hj => ?_⟩⟩, hs, fun o ho => by obtain rfl := Option.some.inj ho; exact hg⟩
    obtain ⟨a, n, c, e1, hn, hl⟩ := hP j hj
    refine ⟨a, n, c, ?_, by unfold maxLen; omega, hl.row⟩
    rw [cell_of_row v g (0 + j) cur _ _ hh, Nat.zero_add]
    have e2 : (cur.toList.take (k * 3))[j]? = cells[j]? := by rw [htk]
    rw [List.getElem?_take_of_lt (by omega), Array.getElem?_toList] at e2
    rw [e2, e1]
end Go.Proofs.Ytajcmamapmeglaa


/- What is there while a flow's net is grown. -/
namespace Go.Proofs.Ytajcmamapmeglaa
open Go.RowKit
set_option maxRecDepth 10000

/-- W: the world ahead of the net's variable, in the block V. -/
structure GrSt (W v : World) (bc : Nat) (ca : Option Addr) (cn cc p : Nat) (bs : List Int) (V : Nat) (pl : Int) (u : Value) (k : Nat) (cells : List Value) : Prop where
  var : v.heap[V]? = some (.cells #[.int .i64 pl, u] 26 (0, 0))
  hV : W.heap.size ≤ V
  hc : bc < W.heap.size
  net : NetW 20 (V + 1) v u k cells
  cur : Cur v bc ca cn cc p
  was : RowB W ca cn bs
  apart : Apart ca cn bc
  kept : Kept bc W.heap.size W v

section
variable {W v v' v2 X : World} {bc : Nat} {ca : Option Addr} {cn cc p p' : Nat} {bs : List Int} {V : Nat} {pl : Int} {u : Value} {k : Nat} {cells : List Value}

theorem GrSt.lt (h : GrSt W v bc ca cn cc p bs V pl u k cells) : V < v.heap.size := (Array.getElem?_eq_some_iff.mp h.var).1
theorem GrSt.bytes (h : GrSt W v bc ca cn cc p bs V pl u k cells) : RowB v ca cn bs := h.was.kept h.kept h.apart

/-- Behind a call that moves the cursor and makes memory. -/
theorem GrSt.go (h : GrSt W v bc ca cn cc p bs V pl u k cells) (hk : Kept bc v.heap.size v v') (hc : Cur v' bc ca cn cc p') : GrSt W v' bc ca cn cc p' bs V pl u k cells := by
  have hlt := h.lt
  have hV := h.hV
  have hb := h.hc
  exact ⟨(hk.block V hlt (by omega)).trans h.var, hV, hb, h.net.kept hk (Nat.le_refl _) (by omega), hc, h.was, h.apart, h.kept.trans (hk.mono h.kept.size)⟩

theorem GrSt.grow (h : GrSt W v bc ca cn cc p bs V pl u k cells) (hk : Below v.heap.size v v') : GrSt W v' bc ca cn cc p bs V pl u k cells :=
  h.go (Kept.of_below hk) (h.cur.below hk h.cur.lt)

theorem GrSt.places (h : GrSt W v bc ca cn cc p bs V pl u k cells) (x : Int) : GrSt W (v.setCell ⟨V, 0, none⟩ (.int .i64 x)) bc ca cn cc p bs V x u k cells := by
  have hV := h.hV
  have hb := h.hc
  have hset : ∀ q, q ≠ V → (v.setCell ⟨V, 0, none⟩ (.int .i64 x)).heap[q]? = v.heap[q]? := fun q hq => Below.heap_setCell _ _ _ _ hq
  have hs : v.heap.size ≤ (v.setCell ⟨V, 0, none⟩ (.int .i64 x)).heap.size := by simp [World.setCell]
  refine ⟨?_, hV, hb, h.net.moved hs fun q hq _ => hset q (by omega), ?_, h.was, h.apart, h.kept.trans (Kept.of_below ((Below.refl _ v).setCell (p := ⟨V, 0, none⟩) (show _ ≤ V by omega) _))⟩
  · rw [heap_setCell_same v V 0 _ _ _ h.var]; rfl
  · obtain ⟨s, hs⟩ := h.cur
    exact ⟨s, (hset bc (by omega)).trans hs⟩

/-- m transitions are appended: v2 is the world ahead of the append, X the one behind it. -/
theorem GrSt.append {m g cp : Nat} {news : List Value} (h : GrSt W v bc ca cn cc p bs V pl u k cells) (hv2 : Below v.heap.size v v2)
    (hnew : ∀ j, j < 3 * m → ∃ a n c xs, news[j]? = some (.slice a n c) ∧ n ≤ 20 ∧ NewL v.heap.size v2 a n c xs)
    (hown : X.ownsRow (V + 1) 106 3 (.slice (some ⟨g, 0, none⟩) (k + m) cp) (k + m) (cells ++ news)) (hgr : v2.grownBy X u.ownBlock) (hl : u.ownBlock = some g ∨ g = v2.heap.size) :
    GrSt W (X.setCell ⟨V, 1, none⟩ (.slice (some ⟨g, 0, none⟩) (k + m) cp)) bc ca cn cc p bs V pl (.slice (some ⟨g, 0, none⟩) (k + m) cp) (k + m) (cells ++ news) := by
  have hVl := h.lt
  have hV := h.hV
  have hb := h.hc
  have hbs := hv2.size
  have hob : ∀ q, u.ownBlock = some q → V + 1 ≤ q ∧ q < v.heap.size := h.net.own.lt
  have N := (h.net.grow hv2).append (m := m) (fun j hj => by
    obtain ⟨a, n, c, xs, e, hn, hl⟩ := hnew j hj
    exact ⟨a, n, c, xs, e, hn, hl.mono (by omega), fun o ho e => by have := (hl.lt ho).1; have := hob _ e; omega⟩) hown hgr hl
  have hset : ∀ q, q ≠ V → (X.setCell ⟨V, 1, none⟩ (.slice (some ⟨g, 0, none⟩) (k + m) cp)).heap[q]? = X.heap[q]? := fun q hq => Below.heap_setCell _ _ _ _ hq
  have hWs : X.heap.size ≤ (X.setCell ⟨V, 1, none⟩ (.slice (some ⟨g, 0, none⟩) (k + m) cp)).heap.size := by simp [World.setCell]
  have old : ∀ q, q ≤ V → X.heap[q]? = v.heap[q]? := fun q hq => (hgr.block q (by omega) fun e => by have := hob q e.symm; omega).trans (hv2.block q (by omega))
  have hBel : Below W.heap.size v2 (X.setCell ⟨V, 1, none⟩ (.slice (some ⟨g, 0, none⟩) (k + m) cp)) := by
    refine Below.setCell (p := ⟨V, 1, none⟩) ?_ (show _ ≤ V by omega) _
    exact (Below.refl W.heap.size v2).grown hgr (by omega) fun q hq => by have := hob q hq; omega
  refine ⟨?_, hV, hb, N.moved hWs fun q hq _ => hset q (by omega), ?_, h.was, h.apart, h.kept.trans (Kept.of_below ((hv2.mono (by omega)).trans hBel))⟩
  · rw [heap_setCell_same X V 1 _ _ _ ((old V (Nat.le_refl _)).trans h.var)]; rfl
  · obtain ⟨s, hs⟩ := h.cur
    exact ⟨s, (hset bc (by omega)).trans ((old bc (by omega)).trans hs)⟩

/-- What the walk reads. -/
theorem GrSt.c0 (h : GrSt W v bc ca cn cc p bs V pl u k cells) : v.cell? ⟨V, 0, none⟩ = some (.int .i64 pl) := cell_of_row v V 0 _ _ _ h.var
theorem GrSt.c1 (h : GrSt W v bc ca cn cc p bs V pl u k cells) : v.cell? ⟨V, 1, none⟩ = some u := cell_of_row v V 1 _ _ _ h.var
theorem GrSt.f0 (h : GrSt W v bc ca cn cc p bs V pl u k cells) : v.frozen? ⟨V, 0, none⟩ = false := frozen_of_row v V 0 _ _ h.var
theorem GrSt.f1 (h : GrSt W v bc ca cn cc p bs V pl u k cells) : v.frozen? ⟨V, 1, none⟩ = false := frozen_of_row v V 1 _ _ h.var
theorem GrSt.form (h : GrSt W v bc ca cn cc p bs V pl u k cells) : ∃ a c, u = .slice a k c := by
  rcases h.net.own.2 with ⟨e, h0⟩ | ⟨g, cp, cur, e, _⟩
  · subst h0; exact ⟨none, 0, e⟩
  · exact ⟨_, cp, e⟩
end

/-- A list of numbers made now. -/
theorem newL1 (w : World) (x : Int) : NewL w.heap.size (w.alloc (.cells #[.int .i64 x] 3)) (some ⟨w.heap.size, 0, none⟩) 1 1 [x] :=
  .inr ⟨w.heap.size, rfl, Nat.le_refl _, Nat.le_refl _, Nat.le_refl _, by decide, Blk.row (b := w.heap.size) ⟨rfl, .inr ⟨rfl, heap_alloc_new w _⟩⟩⟩
theorem newL2 (w : World) (x y : Int) : NewL w.heap.size (w.alloc (.cells #[.int .i64 x, .int .i64 y] 3)) (some ⟨w.heap.size, 0, none⟩) 2 2 [x, y] :=
  .inr ⟨w.heap.size, rfl, Nat.le_refl _, by decide, Nat.le_refl _, by decide, Blk.row (b := w.heap.size) ⟨rfl, .inr ⟨rfl, heap_alloc_new w _⟩⟩⟩

theorem NewL.grown {B : Nat} {w w' : World} {a : Option Addr} {n c : Nat} {xs : List Int} (h : NewL B w a n c xs) (hb : Below w.heap.size w w') : NewL B w' a n c xs :=
  h.keep hb.size fun g _ hlt _ => hb.block g hlt

/-- How much a flow's net grows. -/
def grT : Nat → Nat
  | 0 => 1
  | d + 1 => 2 + 2 * grT d
def grP : Nat → Nat
  | 0 => 0
  | d + 1 => 4 + 2 * grP d
def grC : Nat → Nat
  | 0 => 0
  | d + 1 => 1 + 2 * grC d

/-- How grow ends. -/
def GrEnd (W : World) (bc : Nat) (ca : Option Addr) (cn cc p : Nat) (bs : List Int) (V : Nat) (pl : Int) (k d m : Nat) (e : Ending) (v' : World) : Prop :=
  ∃ (p' : Nat) (pl' : Int) (u' : Value) (k' : Nat) (cells' : List Value), e = .returned (.tuple #[]) ∧ Hid (GrSt W v' bc ca cn cc p' bs V pl' u' k' cells') ∧ p ≤ p' ∧ p' ≤ p + grC d ∧ pl ≤ pl' ∧ pl' ≤ pl + grP d ∧ k + m ≤ k' ∧ k' ≤ k + grT d
end Go.Proofs.Ytajcmamapmeglaa


/- More steps of a region that draws its order, by hand. -/
namespace Go.Proofs.Ytajcmamapmeglaa
open Go.RowKit

/-- An operation that yields a value as one step of a region that draws its order. -/
theorem step_valW {P : Program} {ops : Array Oper} {o : Oper} {a : Act} {w w' : World} {K : Act → World → Prop} {Q : Exit → Act → World → Prop} {E : Prop}
    (hw : Region.wanted o (yielded ops a.tmps) = true) (d : Option Tmp) (hd : o.dst = d) (v : Value) (hr : (execOp a.eval o).run P w = .ok (.value v) w') (h : K (a.put d v) w') :
    if Region.wanted o (yielded ops a.tmps) = true then Oper.wp P o a w K Q else E := by
  subst hd
  rw [if_pos hw]
  unfold Oper.wp
  rw [hr]
  exact h

/-- A call that is wanted, its place named. -/
theorem step_callWd {P : Program} {ops : Array Oper} {o : Oper} {a : Act} {w : World} {K : Act → World → Prop} {Q : Exit → Act → World → Prop} {E : Prop} (d : Option Tmp) (hd : o.dst = d)
    (hw : Region.wanted o (yielded ops a.tmps) = true) (f : FuncId) (fn : Func) (xs : Array Operand) (ts : Array TypeId) (hop : o.op = Op.call { callee := Callee.value (Operand.func f), args := xs, argTypes := ts })
    (hfn : P.funcs[f]? = some fn) (hnm : (fn.name == "runtime.NumGoroutine") = false) (hbd : fn.body.isNone = false) (args : Array Value) (hargs : xs.map a.eval = args) (R : Ending → World → Prop) (hc : Calls P f args w R)
    (h : ∀ e w', R e w' → ∃ v, e = .returned v ∧ K (a.put d v) w') :
    if Region.wanted o (yielded ops a.tmps) = true then Oper.wp P o a w K Q else E := by
  subst hd
  exact step_callW hw f fn xs ts hop hfn hnm hbd args hargs R hc h

/-- An append, its place named. -/
theorem step_appWd {P : Program} {ops : Array Oper} {o : Oper} {a : Act} {w : World} {K : Act → World → Prop} {Q : Exit → Act → World → Prop} {E : Prop} (d : Option Tmp) (hd : o.dst = d) (hgd : o.guard = none) (s x : Operand) (t : TypeId)
    (ho : o.op = .call { callee := .builtin .append, args := #[s, x], argTypes := #[t, t] })
    (base : Nat) (e : TypeId) (i : TypeInfo) (z : Value) (size bytes : Nat) (ht : P.underlying t = some (.slice e)) (hi : P.info? e = some i) (hz : i.zero = some z)
    (hsize : i.size = size) (hby : i.bytes = bytes) (hzs : z.cells.size = size) (hsz : 0 < size)
    (v : Value) (n : Nat) (xs : List Value) (hs : a.eval s = v) (hown : w.ownsRow base e size v n xs)
    (ad : Addr) (m c : Nat) (news : List Value) (hx : a.eval x = .slice (some ad) m c) (hl : news.length = m * size) (hnews : ∀ j u, news[j]? = some u → w.cell? (ad.add j) = some u) (h1 : ∀ u ∈ news, u.oneCell' = true)
    (hm : 0 < m) (h63 : n + m ≤ maxLen) (hbytes : (n + m) * bytes ≤ 140737488355328) (hbase : base ≤ w.heap.size) (H : Nat) (hH : w.heap.size = H)
    (h : ∀ g cap w', w'.ownsRow base e size (.slice (some ⟨g, 0, none⟩) (n + m) cap) (n + m) (xs ++ news) → w.grownBy w' v.ownBlock → (v.ownBlock = some g ∨ g = H) → g < w'.heap.size → K (a.put d (.slice (some ⟨g, 0, none⟩) (n + m) cap)) w') :
    if Region.wanted o (yielded ops a.tmps) = true then Oper.wp P o a w K Q else E := by
  subst hd
  exact step_append_lies w hgd s x t ho base e i z size bytes ht hi hz hsize hby hzs hsz v n xs hs hown ad m c news hx hl hnews h1 hm h63 hbytes hbase H hH h

section
variable {P : Program} {ops : Array Oper} {Q : Exit → Act → World → Prop} {md : Region.Mode} {S : World → Prop}

/-- A store of one cell that must come up next. -/
theorem store_one_next {i : Nat} {oi : Oper} {fuel : Nat} {listed : Array Bool} {a : Act} {w : World} (hi : ops[i]? = some oi) (hd : oi.dst = none) (hr : Region.ready md ops listed = [i])
    (hw : Region.wanted oi (yielded ops a.tmps) = true) (ty : TypeId) (x y : Operand) (hop : oi.op = .store ty x y)
    (b o : Nat) (p : Option Addr) (l c : Nat) (hx : a.eval x = .pointer (some ⟨b, o, none⟩)) (hy : a.eval y = .slice p l c) (C : Array Value) (T : TypeId) (hb : w.heap[b]? = some (.cells C T (0, 0))) (ho : o < C.size) (hz : (P.info? ty).map (·.size) = some 1)
    (hS : S (w.setCell ⟨b, o, none⟩ (.slice p l c))) (h : S (w.setCell ⟨b, o, none⟩ (.slice p l c)) → wpAnyH P md ops Q S fuel (listed.setIfInBounds i true) a (w.setCell ⟨b, o, none⟩ (.slice p l c))) : wpAnyH P md ops Q S (fuel + 1) listed a w := by
  refine wpAnyH_ready hr (by simp) (AllReadyH.cons hi (fun K hK => ?_) AllReadyH.nil)
  rw [if_pos hw]
  have hc : w.cell? ⟨b, o, none⟩ = some (C[o]'ho) := by rw [cell_of_row w b o C T _ hb, Array.getElem?_eq_getElem ho]
  have hf : w.frozen? ⟨b, o, none⟩ = false := frozen_of_row w b o C _ hb
  have hrun : (execOp a.eval oi).run P w = .ok .skip (w.setCell ⟨b, o, none⟩ (.slice p l c)) := by
    unfold execOp
    simp only [hop, hx, hy]
    obtain ⟨inf, hinf, hsz⟩ := Option.map_eq_some_iff.1 hz
    simp [go_sem, sizeOf, typeInfo, hinf, hsz, hc, hf]
  unfold Oper.wp
  rw [hrun]
  show K (a.put oi.dst undef) _
  rw [hd]
  exact hK.out _ _ hS h

end
end Go.Proofs.Ytajcmamapmeglaa


/- A region that draws its order, some of whose operations make memory: all orders at once, by what holds of those that are done. -/
namespace Go.Proofs.Ytajcmamapmeglaa
open Go.RowKit
set_option maxRecDepth 10000

/-- Those of R for which p holds are done. -/
def lstD (l0 : Array Bool) : List Nat → (Nat → Bool) → Array Bool
  | [], _ => l0
  | i :: R, p => if p i then (lstD l0 R p).setIfInBounds i true else lstD l0 R p

/-- The frame in which those of R for which p holds have yielded x. -/
def frmD (D : Nat → Tmp) (a0 : Act) : List Nat → (Nat → Bool) → (Nat → Value) → Act
  | [], _, _ => a0
  | i :: R, p, x => if p i then (frmD D a0 R p x).put (some (D i)) (x i) else frmD D a0 R p x

def upB (p : Nat → Bool) (i : Nat) : Nat → Bool := fun j => if j = i then true else p j
def upV (x : Nat → Value) (i : Nat) (v : Value) : Nat → Value := fun j => if j = i then v else x j

theorem lstD_congr {l0 : Array Bool} {R : List Nat} {p q : Nat → Bool} (h : ∀ i ∈ R, p i = q i) : lstD l0 R p = lstD l0 R q := by
  induction R with
  | nil => rfl
  | cons i R ih =>
    unfold lstD
    rw [h i (by simp), ih fun j hj => h j (by simp [hj])]

theorem frmD_congr {D : Nat → Tmp} {a0 : Act} {R : List Nat} {p q : Nat → Bool} {x y : Nat → Value} (h : ∀ i ∈ R, p i = q i ∧ x i = y i) : frmD D a0 R p x = frmD D a0 R q y := by
  induction R with
  | nil => rfl
  | cons i R ih =>
    unfold frmD
    rw [(h i (by simp)).1, (h i (by simp)).2, ih fun j hj => h j (by simp [hj])]

theorem put_commD (a : Act) {d e : Tmp} (h : d ≠ e) (u v : Value) : (a.put (some d) u).put (some e) v = (a.put (some e) v).put (some d) u := by
  unfold Act.put
  simp only
  rw [Array.setIfInBounds_comm _ _ h]

theorem lstD_set {l0 : Array Bool} {R : List Nat} {p : Nat → Bool} {i : Nat} (hn : R.Nodup) (hi : i ∈ R) (hp : p i = false) : (lstD l0 R p).setIfInBounds i true = lstD l0 R (upB p i) := by
  induction R with
  | nil => simp at hi
  | cons j R ih =>
    obtain ⟨hj, hn'⟩ := List.nodup_cons.1 hn
    by_cases hij : i = j
    · subst hij
      have e : lstD l0 R (upB p i) = lstD l0 R p := lstD_congr fun k hk => by
        have hki : k ≠ i := fun e => hj (by rw [← e]; exact hk)
        unfold upB; rw [if_neg hki]
      unfold lstD
      rw [if_neg (by rw [hp]; simp), if_pos (by simp [upB]), e]
    · have hi' : i ∈ R := by rcases List.mem_cons.1 hi with h | h; exact absurd h hij; exact h
      have e : upB p i j = p j := by unfold upB; rw [if_neg (fun e => hij e.symm)]
      unfold lstD
      rw [e, ← ih hn' hi']
      split
      · rw [Array.setIfInBounds_comm _ _ (fun e => hij e.symm)]
      · rfl

theorem frmD_set {D : Nat → Tmp} {a0 : Act} {R : List Nat} {p : Nat → Bool} {x : Nat → Value} {i : Nat} {v : Value} (hn : R.Nodup) (hD : ∀ i ∈ R, ∀ j ∈ R, D i = D j → i = j) (hi : i ∈ R) (hp : p i = false) : (frmD D a0 R p x).put (some (D i)) v = frmD D a0 R (upB p i) (upV x i v) := by
  induction R with
  | nil => simp at hi
  | cons j R ih =>
    obtain ⟨hj, hn'⟩ := List.nodup_cons.1 hn
    by_cases hij : i = j
    · subst hij
      have e : frmD D a0 R (upB p i) (upV x i v) = frmD D a0 R p x := frmD_congr fun k hk => by
        have hki : k ≠ i := fun e => hj (by rw [← e]; exact hk)
        unfold upB upV; rw [if_neg hki, if_neg hki]; exact ⟨rfl, rfl⟩
      unfold frmD
      rw [if_neg (by rw [hp]; simp), if_pos (by simp [upB]), e]
      simp [upV]
    · have hi' : i ∈ R := by rcases List.mem_cons.1 hi with h | h; exact absurd h hij; exact h
      have e : upB p i j = p j := by unfold upB; rw [if_neg (fun e => hij e.symm)]
      have e' : upV x i v j = x j := by unfold upV; rw [if_neg (fun e => hij e.symm)]
      unfold frmD
      rw [e, e', ← ih hn' (fun a ha b hb => hD a (by simp [ha]) b (by simp [hb])) hi']
      split
      · rw [put_commD _ (fun e => hij (hD i (by simp [hi']) j (by simp) e.symm))]
      · rfl

theorem frmD_other {D : Nat → Tmp} {a0 : Act} {R : List Nat} {p : Nat → Bool} {x : Nat → Value} {t : Tmp} (h : ∀ i ∈ R, D i ≠ t) : (frmD D a0 R p x).eval (.tmp t) = a0.eval (.tmp t) := by
  induction R with
  | nil => rfl
  | cons i R ih =>
    unfold frmD
    split
    · rw [← ih fun j hj => h j (by simp [hj])]
      have := h i (by simp)
      show (Array.setIfInBounds _ _ _).getD t undef = _
      simp [Act.eval, Array.getD_eq_getD_getElem?, this]
    · exact ih fun j hj => h j (by simp [hj])

theorem frmD_size {D : Nat → Tmp} {a0 : Act} {R : List Nat} {p : Nat → Bool} {x : Nat → Value} : (frmD D a0 R p x).tmps.size = a0.tmps.size := by
  induction R with
  | nil => rfl
  | cons i R ih =>
    unfold frmD
    split
    · rw [← ih]; simp [Act.put]
    · exact ih

theorem frmD_at {D : Nat → Tmp} {a0 : Act} {R : List Nat} {p : Nat → Bool} {x : Nat → Value} {i : Nat} (hD : ∀ i ∈ R, ∀ j ∈ R, D i = D j → i = j) (hn : R.Nodup) (hi : i ∈ R) (hp : p i = true) (hs : D i < a0.tmps.size) : (frmD D a0 R p x).eval (.tmp (D i)) = x i := by
  induction R with
  | nil => simp at hi
  | cons j R ih =>
    obtain ⟨hj, hn'⟩ := List.nodup_cons.1 hn
    by_cases hij : i = j
    · subst hij
      unfold frmD
      rw [if_pos hp]
      show (Array.setIfInBounds _ _ _).getD _ undef = _
      have : D i < (frmD D a0 R p x).tmps.size := by rw [frmD_size]; exact hs
      simp [Array.getD_eq_getD_getElem?, this]
    · have hi' : i ∈ R := by rcases List.mem_cons.1 hi with h | h; exact absurd h hij; exact h
      have h' := ih (fun a ha b hb => hD a (by simp [ha]) b (by simp [hb])) hn' hi'
      unfold frmD
      split
      · rw [← h']
        have : D j ≠ D i := fun e => hij (hD i (by simp [hi']) j (by simp) e.symm)
        show (Array.setIfInBounds _ _ _).getD _ undef = _
        simp [Act.eval, Array.getD_eq_getD_getElem?, this]
      · exact h'

def subsD : List Nat → List (List Nat)
  | [] => [[]]
  | i :: R => (subsD R).map (i :: ·) ++ subsD R

theorem filter_subsD (R : List Nat) (p : Nat → Bool) : R.filter p ∈ subsD R := by
  induction R with
  | nil => simp [subsD]
  | cons i R ih =>
    unfold subsD
    rw [List.filter_cons]
    split
    · exact List.mem_append_left _ (List.mem_map.2 ⟨_, ih, rfl⟩)
    · exact List.mem_append_right _ ih

/-- What can come up next, whatever is done. -/
def chkD (md : Region.Mode) (ops : Array Oper) (l0 : Array Bool) (R : List Nat) (dep : Nat → List Nat) : Bool :=
  (subsD R).all fun T => !(T.all fun i => (dep i).all (T.contains ·)) || (R.all (T.contains ·)) ||
    (Region.ready md ops (lstD l0 R (T.contains ·)) == R.filter (fun i => !T.contains i && (dep i).all (T.contains ·)) &&
      !(R.filter (fun i => !T.contains i && (dep i).all (T.contains ·))).isEmpty)

theorem chkD_at {md : Region.Mode} {ops : Array Oper} {l0 : Array Bool} {R : List Nat} {dep : Nat → List Nat} (h : chkD md ops l0 R dep = true) (hdep : ∀ i ∈ R, ∀ j ∈ dep i, j ∈ R) (p : Nat → Bool) (hc : ∀ i ∈ R, p i = true → ∀ j ∈ dep i, p j = true) (hex : ∃ i ∈ R, p i = false) :
    Region.ready md ops (lstD l0 R p) = R.filter (fun i => !p i && (dep i).all p) ∧ R.filter (fun i => !p i && (dep i).all p) ≠ [] := by
  have hT := List.all_eq_true.1 h _ (filter_subsD R p)
  have hin : ∀ i ∈ R, (R.filter p).contains i = p i := fun i hi => by
    cases hp : p i
    · rw [List.contains_eq_mem, decide_eq_false_iff_not]; intro e; have := (List.mem_filter.1 e).2; rw [hp] at this; cases this
    · rw [List.contains_eq_mem, decide_eq_true_iff]; exact List.mem_filter.2 ⟨hi, hp⟩
  have hda : ∀ i ∈ R, (dep i).all ((R.filter p).contains ·) = (dep i).all p := fun i hi => by
    rw [Bool.eq_iff_iff, List.all_eq_true, List.all_eq_true]
    exact forall_congr' fun j => forall_congr' fun hj => by rw [hin j (hdep i hi j hj)]
  have hcl : ((R.filter p).all fun i => (dep i).all ((R.filter p).contains ·)) = true := by
    rw [List.all_eq_true]
    intro i hi
    obtain ⟨hi, hp⟩ := List.mem_filter.1 hi
    rw [hda i hi, List.all_eq_true]
    exact fun j hj => hc i hi hp j hj
  have hf : R.filter (fun i => !(R.filter p).contains i && (dep i).all ((R.filter p).contains ·)) = R.filter (fun i => !p i && (dep i).all p) := by
    apply List.filter_congr
    intro i hi
    rw [hin i hi, hda i hi]
  have hl : lstD l0 R ((R.filter p).contains ·) = lstD l0 R p := lstD_congr hin
  have hna : (R.all ((R.filter p).contains ·)) = false := by
    obtain ⟨i, hi, hp⟩ := hex
    rw [List.all_eq_false]
    exact ⟨i, hi, by rw [hin i hi, hp]; simp⟩
  rw [hcl, hf, hl, hna] at hT
  simp only [Bool.not_true, Bool.false_or, Bool.and_eq_true, beq_iff_eq, Bool.not_eq_true', List.isEmpty_eq_false_iff] at hT
  exact hT

section
variable {P : Program} {ops : Array Oper} {Q : Exit → Act → World → Prop} {md : Region.Mode} {S : World → Prop}

/-- All orders in which R's operations come up. I: what holds of those that are done, p, of what they yielded, x, and of the world. -/
theorem any_set (R : List Nat) (D : Nat → Tmp) (dep : Nat → List Nat) (I : (Nat → Bool) → (Nat → Value) → World → Prop) {fuel : Nat} {l0 : Array Bool} {a0 : Act} {w : World} (x0 : Nat → Value)
    (hn : R.Nodup) (hD : ∀ i ∈ R, ∀ j ∈ R, D i = D j → i = j) (hdep : ∀ i ∈ R, ∀ j ∈ dep i, j ∈ R) (hds : ∀ i ∈ R, ∃ o, ops[i]? = some o ∧ o.dst = some (D i) ∧ o.guard = none) (hck : chkD md ops l0 R dep = true) (hS : ∀ p x w, I p x w → S w)
    (step : ∀ i ∈ R, ∀ (p : Nat → Bool) (x : Nat → Value) (w : World) (o : Oper), ops[i]? = some o → p i = false → (∀ j ∈ dep i, p j = true) → I p x w → ∀ K : Act → World → Prop, (∀ v w', I (upB p i) (upV x i v) w' → K ((frmD D a0 R p x).put (some (D i)) v) w') → Oper.wp P o (frmD D a0 R p x) w K Q)
    (h0 : I (fun _ => false) x0 w) (fin : ∀ x w, I (fun i => R.contains i) x w → wpAnyH P md ops Q S fuel (lstD l0 R (fun _ => true)) (frmD D a0 R (fun _ => true) x) w) :
    wpAnyH P md ops Q S (fuel + R.length) l0 a0 w := by
  have main : ∀ (m : Nat) (p : Nat → Bool) (x : Nat → Value) (w : World), (R.filter (fun i => !p i)).length = m → (∀ i, p i = true → i ∈ R) → (∀ i ∈ R, p i = true → ∀ j ∈ dep i, p j = true) → I p x w → wpAnyH P md ops Q S (fuel + m) (lstD l0 R p) (frmD D a0 R p x) w := by
    intro m
    induction m with
    | zero =>
      intro p x w hm hpR hc hI
      have hall : ∀ i ∈ R, p i = true := fun i hi => by
        cases hp : p i
        · have : i ∈ R.filter (fun i => !p i) := List.mem_filter.2 ⟨hi, by rw [hp]; rfl⟩
          rw [List.length_eq_zero_iff.1 hm] at this
          simp at this
        · rfl
      have e1 : p = fun i => R.contains i := funext fun i => by
        by_cases hi : i ∈ R
        · rw [hall i hi]; simp [hi]
        · have : p i = false := by cases hp : p i; rfl; exact absurd (hpR i hp) hi
          rw [this]; simp [hi]
      rw [lstD_congr (q := fun _ => true) hall, frmD_congr (q := fun _ => true) (y := x) fun i hi => ⟨hall i hi, rfl⟩]
      exact fin x w (e1 ▸ hI)
    | succ m ih =>
      intro p x w hm hpR hc hI
      have hex : ∃ i ∈ R, p i = false := by
        cases hf : R.filter (fun i => !p i) with
        | nil => rw [hf] at hm; simp at hm
        | cons i rs =>
          have : i ∈ R.filter (fun i => !p i) := by rw [hf]; simp
          obtain ⟨h1, h2⟩ := List.mem_filter.1 this
          exact ⟨i, h1, by simpa using h2⟩
      obtain ⟨hr, hne⟩ := chkD_at hck hdep p hc hex
      refine wpAnyH_ready hr hne ?_
      have all : ∀ rs : List Nat, (∀ i ∈ rs, i ∈ R ∧ p i = false ∧ ∀ j ∈ dep i, p j = true) → AllReadyH P md ops Q S (fuel + m) (lstD l0 R p) (frmD D a0 R p x) w rs := by
        intro rs
        induction rs with
        | nil => intro _; exact AllReadyH.nil
        | cons i rs ihr =>
          intro hrs
          obtain ⟨hi, hp, hd⟩ := hrs i (by simp)
          obtain ⟨o, ho, hod, hog⟩ := hds i hi
          refine AllReadyH.cons ho (fun K hK => ?_) (ihr fun j hj => hrs j (by simp [hj]))
          rw [if_pos (by unfold Region.wanted; rw [hog])]
          refine step i hi p x w o ho hp hd hI K fun v w' hI' => ?_
          refine hK.out _ _ (hS _ _ _ hI') fun _ => ?_
          rw [lstD_set hn hi hp, frmD_set hn hD hi hp]
          refine ih (upB p i) (upV x i v) w' ?_ ?_ ?_ hI'
          · have e : R.filter (fun j => !upB p i j) = (R.filter (fun j => !p j)).filter (fun j => !(j == i)) := by
              rw [List.filter_filter]
              apply List.filter_congr
              intro j _
              unfold upB
              by_cases hj : j = i
              · simp [hj]
              · simp [hj]
            have hmem : i ∈ R.filter (fun j => !p j) := List.mem_filter.2 ⟨hi, by rw [hp]; rfl⟩
            have hnd : (R.filter (fun j => !p j)).Nodup := hn.filter _
            have e2 : (R.filter (fun j => !p j)).filter (fun j => !(j == i)) = (R.filter (fun j => !p j)).erase i := by
              rw [hnd.erase_eq_filter]; rfl
            rw [e, e2, List.length_erase_of_mem hmem, hm]; rfl
          · intro j hj
            unfold upB at hj
            by_cases hji : j = i
            · rw [hji]; exact hi
            · rw [if_neg hji] at hj; exact hpR j hj
          · intro j hj hpj q hq
            unfold upB at hpj ⊢
            by_cases hqi : q = i
            · rw [if_pos hqi]
            · rw [if_neg hqi]
              by_cases hji : j = i
              · subst hji; exact hd q hq
              · rw [if_neg hji] at hpj; exact hc j hj hpj q hq
      refine all _ fun i hi => ?_
      obtain ⟨h1, h2⟩ := List.mem_filter.1 hi
      rw [Bool.and_eq_true, Bool.not_eq_true', List.all_eq_true] at h2
      exact ⟨h1, h2.1, h2.2⟩
  have e0 : R.filter (fun i => !(fun _ => false : Nat → Bool) i) = R := by simp
  have h := main R.length (fun _ => false) x0 w (by rw [e0]) (fun i hi => by cases hi) (fun i _ hi => by cases hi) h0
  have el : ∀ R : List Nat, lstD l0 R (fun _ => false) = l0 := fun R => by induction R with | nil => rfl | cons i R ih => unfold lstD; simp [ih]
  have ef : ∀ R : List Nat, frmD D a0 R (fun _ => false) x0 = a0 := fun R => by induction R with | nil => rfl | cons i R ih => unfold frmD; simp [ih]
  rw [el, ef] at h
  exact h

/-- The same, where each operation's value is told by itself and stays when memory is made. -/
theorem any_make (R : List Nat) (D : Nat → Tmp) (dep : Nat → List Nat) (B : World) (G : Nat → Value → World → Prop) {fuel : Nat} {l0 : Array Bool} {a0 : Act} {w : World}
    (hmono : ∀ i v w w', G i v w → Below w.heap.size w w' → G i v w')
    (hn : R.Nodup) (hD : ∀ i ∈ R, ∀ j ∈ R, D i = D j → i = j) (hsz : (R.all fun i => decide (D i < a0.tmps.size)) = true) (hdep : ∀ i ∈ R, ∀ j ∈ dep i, j ∈ R) (hds : (R.all fun i => match ops[i]? with | some o => o.dst == some (D i) && o.guard.isNone | none => false) = true) (hck : chkD md ops l0 R dep = true) (hS : ∀ w, S w)
    (step : ∀ i ∈ R, ∀ (a : Act) (x : Nat → Value) (w : World) (o : Oper), ops[i]? = some o → (∀ t, (∀ j ∈ R, D j ≠ t) → a.eval (.tmp t) = a0.eval (.tmp t)) → (∀ j ∈ dep i, a.eval (.tmp (D j)) = x j ∧ G j (x j) w) → Below B.heap.size B w → ∀ K : Act → World → Prop, (∀ v w', G i v w' → Below w.heap.size w w' → K (a.put (some (D i)) v) w') → Oper.wp P o a w K Q)
    (h0 : Below B.heap.size B w) (fin : ∀ x w, Below B.heap.size B w → (∀ i ∈ R, G i (x i) w) → wpAnyH P md ops Q S fuel (lstD l0 R (fun _ => true)) (frmD D a0 R (fun _ => true) x) w) :
    wpAnyH P md ops Q S (fuel + R.length) l0 a0 w := by
  refine any_set R D dep (fun p x w => Below B.heap.size B w ∧ ∀ i ∈ R, p i = true → G i (x i) w) (fun _ => undef) hn hD hdep (fun i hi => ?_) hck (fun _ _ w _ => hS w) ?_ ⟨h0, fun i _ hi => by cases hi⟩ ?_
  · have h := List.all_eq_true.1 hds i hi
    cases ho : ops[i]? with
    | none => rw [ho] at h; simp at h
    | some o =>
      rw [ho] at h
      simp only [Bool.and_eq_true, beq_iff_eq, Option.isNone_iff_eq_none] at h
      exact ⟨o, rfl, h.1, h.2⟩
  · rintro i hi p x w o ho hp hd ⟨hb, hG⟩ K hK
    refine step i hi (frmD D a0 R p x) x w o ho (fun t ht => frmD_other ht) (fun j hj => ⟨?_, hG j (hdep i hi j hj) (hd j hj)⟩) hb K fun v w' hv hb' => hK v w' ⟨hb.trans (hb'.mono hb.size), fun j hj hpj => ?_⟩
    · exact frmD_at hD hn (hdep i hi j hj) (hd j hj) (of_decide_eq_true (List.all_eq_true.1 hsz j (hdep i hi j hj)))
    · unfold upV
      by_cases hji : j = i
      · rw [if_pos hji, hji]; exact hv
      · rw [if_neg hji]
        unfold upB at hpj
        rw [if_neg hji] at hpj
        exact hmono _ _ _ _ (hG j hj hpj) hb'
  · rintro x w ⟨hb, hG⟩
    exact fin x w hb fun i hi => hG i hi (by simp [hi])

/-- The same, where the world goes on by L and J holds of it all the way, whatever is done. -/
theorem any_go (R : List Nat) (D : Nat → Tmp) (dep : Nat → List Nat) (L : World → World → Prop) (J : (Nat → Bool) → World → Prop) (G : Nat → Value → World → Prop) {fuel : Nat} {l0 : Array Bool} {a0 : Act} {w : World}
    (hmono : ∀ i v w w', G i v w → L w w' → G i v w')
    (hn : R.Nodup) (hD : ∀ i ∈ R, ∀ j ∈ R, D i = D j → i = j) (hsz : (R.all fun i => decide (D i < a0.tmps.size)) = true) (hdep : ∀ i ∈ R, ∀ j ∈ dep i, j ∈ R) (hds : (R.all fun i => match ops[i]? with | some o => o.dst == some (D i) && o.guard.isNone | none => false) = true) (hck : chkD md ops l0 R dep = true) (hS : ∀ p w, J p w → S w)
    (step : ∀ i ∈ R, ∀ (p : Nat → Bool) (a : Act) (x : Nat → Value) (w : World) (o : Oper), ops[i]? = some o → p i = false → (∀ t, (∀ j ∈ R, D j ≠ t) → a.eval (.tmp t) = a0.eval (.tmp t)) → (∀ j ∈ dep i, p j = true ∧ a.eval (.tmp (D j)) = x j ∧ G j (x j) w) → J p w → ∀ K : Act → World → Prop, (∀ v w', G i v w' → L w w' → J (upB p i) w' → K (a.put (some (D i)) v) w') → Oper.wp P o a w K Q)
    (h0 : J (fun _ => false) w) (fin : ∀ x w, J (fun i => R.contains i) w → (∀ i ∈ R, G i (x i) w) → wpAnyH P md ops Q S fuel (lstD l0 R (fun _ => true)) (frmD D a0 R (fun _ => true) x) w) :
    wpAnyH P md ops Q S (fuel + R.length) l0 a0 w := by
  refine any_set R D dep (fun p x w => J p w ∧ ∀ i ∈ R, p i = true → G i (x i) w) (fun _ => undef) hn hD hdep (fun i hi => ?_) hck (fun p _ w h => hS p w h.1) ?_ ⟨h0, fun i _ hi => by cases hi⟩ ?_
  · have h := List.all_eq_true.1 hds i hi
    cases ho : ops[i]? with
    | none => rw [ho] at h; simp at h
    | some o =>
      rw [ho] at h
      simp only [Bool.and_eq_true, beq_iff_eq, Option.isNone_iff_eq_none] at h
      exact ⟨o, rfl, h.1, h.2⟩
  · rintro i hi p x w o ho hp hd ⟨hb, hG⟩ K hK
    refine step i hi p (frmD D a0 R p x) x w o ho hp (fun t ht => frmD_other ht) (fun j hj => ⟨hd j hj, ?_, hG j (hdep i hi j hj) (hd j hj)⟩) hb K fun v w' hv hb' hJ => hK v w' ⟨hJ, fun j hj hpj => ?_⟩
    · exact frmD_at hD hn (hdep i hi j hj) (hd j hj) (of_decide_eq_true (List.all_eq_true.1 hsz j (hdep i hi j hj)))
    · unfold upV
      by_cases hji : j = i
      · rw [if_pos hji, hji]; exact hv
      · rw [if_neg hji]
        unfold upB at hpj
        rw [if_neg hji] at hpj
        exact hmono _ _ _ _ (hG j hj hpj) hb'
  · rintro x w ⟨hb, hG⟩
    exact fin x w hb fun i hi => hG i hi (by simp [hi])

theorem evalD {a : Act} {t : Tmp} {v : Value} (h : a.eval (.tmp t) = v) : a.tmps[t]?.getD undef = v := by
  rw [← h]; simp [Act.eval]

theorem oper_val {o : Oper} {a : Act} {w w' : World} {K : Act → World → Prop} {d : Option Tmp} {v : Value} (hd : o.dst = d) (hr : (execOp a.eval o).run P w = .ok (.value v) w') (h : K (a.put d v) w') : Oper.wp P o a w K Q := by
  subst hd
  unfold Oper.wp
  rw [hr]
  exact h

theorem oper_call {o : Oper} {a : Act} {w : World} {K : Act → World → Prop} {d : Option Tmp} (hd : o.dst = d) (f : FuncId) (fn : Func) (xs : Array Operand) (ts : Array TypeId) (hop : o.op = Op.call { callee := Callee.value (Operand.func f), args := xs, argTypes := ts })
    (hfn : P.funcs[f]? = some fn) (hnm : (fn.name == "runtime.NumGoroutine") = false) (hbd : fn.body.isNone = false) (args : Array Value) (hargs : xs.map a.eval = args) (R : Ending → World → Prop) (hc : Calls P f args w R)
    (h : ∀ e w', R e w' → ∃ v, e = .returned v ∧ K (a.put d v) w') : Oper.wp P o a w K Q := by
  subst hd
  unfold Oper.wp
  rw [run_callw f fn xs ts hop hfn hnm hbd, hargs, Oper.upon_enter]
  refine hc.mono fun e w'' hh => ?_
  obtain ⟨v, rfl, hk⟩ := h e w'' hh
  exact hk
end
end Go.Proofs.Ytajcmamapmeglaa
