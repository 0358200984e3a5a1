/- Contracts that the proof stands on, one behind the other. -/
import Derived.Test.YtgeondcahdpbgaaP8
import Derived.Deep.AppendLies
/- someOf: some rising numbers in new memory, whatever the bytes; nothing that was there is written but the cursor. -/
namespace Go.Proofs.Ytgeondcahdpbgaa
open Go.RowKit
set_option maxRecDepth 10000

/-- A list that is nil, or lies from the head of a block at B or behind. -/
def NewL (B : Nat) (w : World) (a : Option Addr) (n c : Nat) (xs : List Int) : Prop :=
  (a = none ∧ n = 0 ∧ c = 0 ∧ xs = []) ∨ ∃ g, a = some ⟨g, 0, none⟩ ∧ B ≤ g ∧ 1 ≤ n ∧ n ≤ c ∧ c ≤ maxLen ∧ Row w a n xs

theorem NewL.row {B : Nat} {w : World} {a : Option Addr} {n c : Nat} {xs : List Int} (h : NewL B w a n c xs) : Row w a n xs := by
  rcases h with ⟨rfl, rfl, rfl, rfl⟩ | ⟨g, _, _, _, _, _, hr⟩
  · exact ⟨rfl, .inl rfl⟩
  · exact hr

theorem NewL.keep {B : Nat} {w w' : World} {a : Option Addr} {n c : Nat} {xs : List Int} (h : NewL B w a n c xs) (hs : w.heap.size ≤ w'.heap.size) (hk : ∀ g, B ≤ g → g < w.heap.size → (∃ o, a = some o ∧ o.block = g) → w'.heap[g]? = w.heap[g]?) : NewL B w' a n c xs := by
  rcases h with h | ⟨g, rfl, hB, h1, h2, h3, hr⟩
  · exact .inl h
  · refine .inr ⟨g, rfl, hB, h1, h2, h3, hr.1, ?_⟩
    rcases hr.2 with h0 | ⟨b, off, e, hl, hc⟩
    · exact .inl h0
    · obtain ⟨rfl, rfl⟩ : b = g ∧ off = 0 := by simpa [eq_comm] using e
      exact .inr ⟨b, 0, rfl, by omega, fun i hi => (World.cell?_of_block (hk b hB hl ⟨_, rfl, rfl⟩)).trans (hc i hi)⟩

theorem NewL.kept {B bc C : Nat} {w w' : World} {a : Option Addr} {n c : Nat} {xs : List Int} (h : NewL B w a n c xs) (hk : Kept bc C w w') (hC : w.heap.size ≤ C) (hb : bc < B) : NewL B w' a n c xs :=
  h.keep hk.size fun g hg hl _ => hk.block g (by omega) (by omega)
theorem NewL.mono {B C : Nat} {w : World} {a : Option Addr} {n c : Nat} {xs : List Int} (h : NewL B w a n c xs) (hC : C ≤ B) : NewL C w a n c xs := by
  rcases h with h | ⟨g, e, hB, h1⟩
  · exact .inl h
  · exact .inr ⟨g, e, by omega, h1⟩

/-- What is there while someOf draws. -/
structure SomeSt (w v : World) (bc : Nat) (ca : Option Addr) (cn cc p : Nat) (bs : List Int) (u : Value) (m : Nat) : Prop where
  new : ∃ a n c xs, u = .slice a n c ∧ n ≤ m ∧ NewL w.heap.size v a n c xs
  cur : Cur v bc ca cn cc p
  bytes : RowB v ca cn bs
  kept : Kept bc w.heap.size w v

/-- How someOf ends. -/
def SomeEnd (bc : Nat) (ca : Option Addr) (cn cc p : Nat) (bs : List Int) (w : World) (e : Ending) (w' : World) : Prop :=
  ∃ a n c xs p', e = .returned (.slice a n c) ∧ n ≤ 2 ∧ NewL w.heap.size w' a n c xs ∧ p' ≤ p + 3 ∧ Cur w' bc ca cn cc p' ∧ RowB w' ca cn bs ∧ Kept bc w.heap.size w w'

theorem SomeSt.only {w v v' : World} {bc : Nat} {ca : Option Addr} {cn cc p p' : Nat} {bs : List Int} {u : Value} {m : Nat} (h : SomeSt w v bc ca cn cc p bs u m) (ho : OnlyC bc v v') (hc : Cur v' bc ca cn cc p') (hap : Apart ca cn bc) (hb : bc < w.heap.size) : SomeSt w v' bc ca cn cc p' bs u m := by
  obtain ⟨a, n, c, xs, e, hn, hl⟩ := h.new
  exact ⟨⟨a, n, c, xs, e, hn, hl.kept (Kept.of_only (B := v.heap.size) ho) (Nat.le_refl _) hb⟩, hc, h.bytes.keep ho hap, h.kept.trans (Kept.of_only ho)⟩

/-- A put. -/
theorem SomeSt.put {w v : World} {bc : Nat} {ca : Option Addr} {cn cc p : Nat} {bs : List Int} {u : Value} {m : Nat} (h : SomeSt w v bc ca cn cc p bs u m) (hm : m ≤ 100) (x : Int) (hap : Apart ca cn bc) :
    Calls Try.prog 62 #[u, .int .i64 x] v fun e v' => ∃ u', e = .returned u' ∧ SomeSt w v' bc ca cn cc p bs u' (m + 1) := by
  have hcl := h.cur.lt
  have fin : ∀ {n b : Nat} {e : Ending} {v' : World}, n ≤ m → w.heap.size ≤ b → PutEnd n b v e v' → ∃ u', e = .returned u' ∧ SomeSt w v' bc ca cn cc p bs u' (m + 1) := by
    rintro n b e v' hn hgb ⟨g, n', c', ys, rfl, h1, h2, h3, h4, h5, h6, h7⟩
    refine ⟨_, rfl, ⟨_, _, _, ys, rfl, by omega, .inr ⟨g, rfl, ?_, h1, h3, h4, h5⟩⟩, h.cur.below h7 hcl, h.bytes.kept (Kept.of_below h7) hap, h.kept.trans ((Kept.of_below h7).mono h.kept.size)⟩
    have := h.kept.size
    rcases h6 with rfl | h6
    · exact hgb
    · omega
  obtain ⟨a, n, c, xs, rfl, hn, hl⟩ := h.new
  rcases hl with ⟨rfl, rfl, rfl, rfl⟩ | ⟨g, rfl, hB, h1, h2, h3, hr⟩
  · exact (put_nil x v).mono fun e v' he => fin (Nat.zero_le _) h.kept.size he
  · exact (put_some g n c xs x v hr (by omega) h1 h2 h3).mono fun e v' he => fin hn hB he

theorem SomeSt.done {w v : World} {bc : Nat} {ca : Option Addr} {cn cc p q : Nat} {bs : List Int} {u : Value} {m : Nat} (h : SomeSt w v bc ca cn cc q bs u m) (hm : m ≤ 2) (hq : q ≤ p + 3) : SomeEnd bc ca cn cc p bs w (.returned u) v := by
  obtain ⟨a, n, c, xs, rfl, hn, hl⟩ := h.new
  exact ⟨a, n, c, xs, q, rfl, by omega, hl, hq, h.cur, h.bytes, h.kept⟩

set_option maxHeartbeats 1000000 in
theorem some_draw (pl lo : Nat) (bc : Nat) (ca : Option Addr) (cn cc p : Nat) (bs : List Int) (w : World) (h : Cur w bc ca cn cc p) (hr : RowB w ca cn bs) (hap : Apart ca cn bc) (hp : p ≤ 900000) (hn : cn ≤ 1048576) (hpl : 2 ≤ pl) (hpl2 : pl ≤ 200) (hlo : lo ≤ 1) :
    Calls Try.prog 44 #[.pointer (some ⟨bc, 0, none⟩), .int .i64 (pl : Int), .int .i64 (lo : Int), .int .i64 2] w fun e w' => SomeEnd bc ca cn cc p bs w e w' := by
  have hbc := h.lt
  have ST := hide (SomeSt.mk (w := w) (u := .slice none 0 0) (m := 0) ⟨none, 0, 0, [], rfl, Nat.le_refl _, .inl ⟨rfl, rfl, rfl, rfl⟩⟩ h hr (Kept.refl bc _ w))
  have HP := hide (pick_any (3 - lo) bc ca cn cc p bs w h hr (by omega) hn (by omega) (by omega))
  rw [show ((3 - lo : Nat) : Int) = 2 - (lo : Int) + 1 by omega] at HP
  clear h hr
  go_enter Try.func44, Try.ntmps44
  go_wp2_with fail
  refine HP.out.mono ?_
  rintro e v1 ⟨r, rfl, hr, hcur, ho⟩
  have S1 := hide (ST.out.only ho hcur hap hbc)
  clear hcur ho ST HP
  go_wp2_with fail
  go_loopw [9, 10] (fun u i wr => ∃ k q m : Nat, i = .int .i64 k ∧ k + m ≤ 2 ∧ q + k ≤ p + 3 ∧ Hid (SomeSt w wr bc ca cn cc q bs u m)) (fun _ i _ => (intOf i).toNat)
  case atStart => exact ⟨lo + r, p + 1, 0, by go_num, by omega, by omega, S1⟩
  case round =>
    obtain ⟨k, q, m, rfl, hkm, hq, S0⟩ := hrel
    clear S1
    by_cases hlt : 0 < k
    · have hi1 : (0 : Int) < (k : Int) := by omega
      go_wp2_with fail
      refine (pick_any pl bc ca cn cc q bs _ S0.out.cur S0.out.bytes (by omega) hn hpl hpl2).mono ?_
      rintro e v2 ⟨x, rfl, hx, hcur, ho⟩
      have S2 := hide (S0.out.only ho hcur hap hbc)
      clear hcur ho S0
      go_wp2_with fail
      refine (S2.out.put (by omega) _ hap).mono ?_
      rintro e v3 ⟨u', rfl, S3'⟩
      have S3 := hide S3'
      clear S3' S2
      go_wp2_with fail
      go_roundw
      case rel => exact ⟨k - 1, q + 1, m + 1, by go_num, by omega, by omega, S3⟩
      case measure => simp [intOf]; omega
    · have hk0 : k = 0 := by omega
      subst hk0
      go_wp2_with fail
      go_ret
      exact S0.out.done (by omega) (by omega)
end Go.Proofs.Ytgeondcahdpbgaa


/- A net that is being drawn: its transitions in a row of their own, each list of at most two numbers, nil or in a block of its own. -/
namespace Go.Proofs.Ytgeondcahdpbgaa
open Go.RowKit
set_option maxRecDepth 10000

theorem NewL.lt {B : Nat} {w : World} {a : Option Addr} {n c : Nat} {xs : List Int} (h : NewL B w a n c xs) {o : Addr} (ho : a = some o) : B ≤ o.block ∧ o.block < w.heap.size := by
  rcases h with ⟨e, _⟩ | ⟨g, e, hB, h1, _, _, hr⟩
  · rw [e] at ho; cases ho
  · rw [e] at ho
    obtain rfl := Option.some.inj ho
    rcases hr.2 with h0 | ⟨b, off, e2, hl, _⟩
    · omega
    · rw [e] at e2
      obtain ⟨rfl, rfl⟩ : g = b ∧ 0 = off := by simpa using e2
      exact ⟨hB, hl⟩

def TriC (B : Nat) (v : World) (u : Value) (cells : List Value) (j : Nat) : Prop :=
  ∃ a n c xs, cells[j]? = some (.slice a n c) ∧ n ≤ 2 ∧ NewL B v a n c xs ∧ ∀ o, a = some o → u.ownBlock ≠ some o.block

structure NetOwn (B : Nat) (v : World) (u : Value) (k : Nat) (cells : List Value) : Prop where
  own : v.ownsRow B 48 3 u k cells
  tris : ∀ j, j < 3 * k → TriC B v u cells j

theorem NetOwn.nil (B : Nat) (v : World) : NetOwn B v (.slice none 0 0) 0 [] := ⟨World.ownsRow_nil _ _ _ _, fun j hj => absurd hj (by omega)⟩

theorem NetOwn.moved {B : Nat} {v v' : World} {u : Value} {k : Nat} {cells : List Value} (h : NetOwn B v u k cells) (hs : v.heap.size ≤ v'.heap.size) (hk : ∀ q, B ≤ q → q < v.heap.size → v'.heap[q]? = v.heap[q]?) : NetOwn B v' u k cells := by
  refine ⟨⟨h.own.1, ?_⟩, fun j hj => ?_⟩
  · rcases h.own.2 with hn | ⟨g, cp, cur, e, hg, hh, r⟩
    · exact .inl hn
    · exact .inr ⟨g, cp, cur, e, hg, (hk g hg (Array.getElem?_eq_some_iff.mp hh).1).trans hh, r⟩
  · obtain ⟨a, n, c, xs, e, hn, hl, hd⟩ := h.tris j hj
    exact ⟨a, n, c, xs, e, hn, hl.keep hs fun g hg hlt _ => hk g hg hlt, hd⟩

theorem NetOwn.kept {B bc C : Nat} {v v' : World} {u : Value} {k : Nat} {cells : List Value} (h : NetOwn B v u k cells) (hk : Kept bc C v v') (hC : v.heap.size ≤ C) (hb : bc < B) : NetOwn B v' u k cells :=
  h.moved hk.size fun q hq hl => hk.block q (by omega) (by omega)
theorem NetOwn.low {B C : Nat} {v : World} {u : Value} {k : Nat} {cells : List Value} (h : NetOwn B v u k cells) (hC : C ≤ B) : NetOwn C v u k cells := by
  refine ⟨⟨h.own.1, ?_⟩, fun j hj => ?_⟩
  · rcases h.own.2 with hn | ⟨g, cp, cur, e, hg, r⟩
    · exact .inl hn
    · exact .inr ⟨g, cp, cur, e, by omega, r⟩
  · obtain ⟨a, n, c, xs, e, hn, hl, hd⟩ := h.tris j hj
    exact ⟨a, n, c, xs, e, hn, hl.mono hC, hd⟩

theorem NetOwn.append {B : Nat} {v W : World} {u : Value} {k : Nat} {cells : List Value} {g cp : Nat} {a0 a1 a2 : Option Addr} {n0 n1 n2 c0 c1 c2 : Nat} {x0 x1 x2 : List Int} (h : NetOwn B v u k cells)
    (h0 : NewL B v a0 n0 c0 x0) (h1 : NewL B v a1 n1 c1 x1) (h2 : NewL B v a2 n2 c2 x2) (m0 : n0 ≤ 2) (m1 : n1 ≤ 2) (m2 : n2 ≤ 2)
    (d0 : ∀ o, a0 = some o → u.ownBlock ≠ some o.block) (d1 : ∀ o, a1 = some o → u.ownBlock ≠ some o.block) (d2 : ∀ o, a2 = some o → u.ownBlock ≠ some o.block)
    (hown : W.ownsRow B 48 3 (.slice (some ⟨g, 0, none⟩) (k + 1) cp) (k + 1) (cells ++ [.slice a0 n0 c0, .slice a1 n1 c1, .slice a2 n2 c2])) (hgr : v.grownBy W u.ownBlock) (hl : u.ownBlock = some g ∨ g = v.heap.size) :
    NetOwn B W (.slice (some ⟨g, 0, none⟩) (k + 1) cp) (k + 1) (cells ++ [.slice a0 n0 c0, .slice a1 n1 c1, .slice a2 n2 c2]) := by
  have hcl : cells.length = 3 * k := by have := h.own.1; omega
  have key : ∀ {a : Option Addr} {n c : Nat} {xs : List Int}, NewL B v a n c xs → (∀ o, a = some o → u.ownBlock ≠ some o.block) → NewL B W a n c xs ∧ ∀ o, a = some o → (Value.slice (some ⟨g, 0, none⟩) (k + 1) cp).ownBlock ≠ some o.block := by
    intro a n c xs hn hd
    refine ⟨hn.keep hgr.size fun q hq hlt ⟨o, ho, hoq⟩ => hgr.block q hlt fun e => hd o ho (by rw [hoq]; exact e.symm), fun o ho e => ?_⟩
    have e' : g = o.block := by simpa [Value.ownBlock] using e
    have hlt := (hn.lt ho).2
    rcases hl with hl | hl
    · exact hd o ho (by rw [hl, e'])
    · omega
  refine ⟨hown, fun j hj => ?_⟩
  by_cases hlt : j < 3 * k
  · obtain ⟨a, n, c, xs, e, hn, hl', hd⟩ := h.tris j hlt
    obtain ⟨q1, q2⟩ := key hl' hd
    exact ⟨a, n, c, xs, by rw [List.getElem?_append_left (by omega)]; exact e, hn, q1, q2⟩
  · have hget : (cells ++ [.slice a0 n0 c0, .slice a1 n1 c1, .slice a2 n2 c2])[j]? = [Value.slice a0 n0 c0, .slice a1 n1 c1, .slice a2 n2 c2][j - 3 * k]? := by rw [List.getElem?_append_right (by omega), hcl]
    obtain hj0 | hj0 | hj0 : j - 3 * k = 0 ∨ j - 3 * k = 1 ∨ j - 3 * k = 2 := by omega
    · obtain ⟨q1, q2⟩ := key h0 d0
      exact ⟨_, _, _, _, by rw [hget, hj0]; rfl, m0, q1, q2⟩
    · obtain ⟨q1, q2⟩ := key h1 d1
      exact ⟨_, _, _, _, by rw [hget, hj0]; rfl, m1, q1, q2⟩
    · obtain ⟨q1, q2⟩ := key h2 d2
      exact ⟨_, _, _, _, by rw [hget, hj0]; rfl, m2, q1, q2⟩

theorem NetOwn.set {B : Nat} {v : World} {k : Nat} {cells : List Value} {g cp j : Nat} {a : Option Addr} {n c : Nat} {xs : List Int} (h : NetOwn B v (.slice (some ⟨g, 0, none⟩) k cp) k cells) (hj : j < 3 * k)
    (hn : NewL B v a n c xs) (hn2 : n ≤ 2) (hd : ∀ o, a = some o → o.block ≠ g) : NetOwn B (v.setCell ⟨g, j, none⟩ (.slice a n c)) (.slice (some ⟨g, 0, none⟩) k cp) k (cells.set j (.slice a n c)) := by
  have hcl : cells.length = 3 * k := by have := h.own.1; omega
  have hoth : ∀ q, q ≠ g → (v.setCell ⟨g, j, none⟩ (.slice a n c)).heap[q]? = v.heap[q]? := fun q hq => Below.heap_setCell _ _ _ _ hq
  have hsz : v.heap.size ≤ (v.setCell ⟨g, j, none⟩ (.slice a n c)).heap.size := by simp [World.setCell]
  refine ⟨⟨by simpa using h.own.1, ?_⟩, fun i hi => ?_⟩
  · rcases h.own.2 with ⟨e, _⟩ | ⟨g', cp', cur, e, hg, hh, r1, r2, r3, r4⟩
    · simp at e
    · obtain ⟨rfl, rfl⟩ : g = g' ∧ cp = cp' := by simpa using e
      refine .inr ⟨g, cp, _, rfl, hg, heap_setCell_same v g j cur _ _ hh, r1, r2, by simpa using r3, ?_⟩
      rw [← r4]
      simp [List.take_set]
  · obtain ⟨a', n', c', xs', e, hn', hl', hd'⟩ := h.tris i hi
    by_cases hij : i = j
    · subst hij
      exact ⟨a, n, c, xs, by rw [List.getElem?_set_self (by omega)], hn2, hn.keep hsz fun q _ _ ⟨o, ho, hoq⟩ => hoth q (by have := hd o ho; omega), fun o ho e => hd o ho (by simpa [Value.ownBlock, eq_comm] using e)⟩
    · exact ⟨a', n', c', xs', by rw [List.getElem?_set_ne (fun e => hij e.symm)]; exact e, hn', hl'.keep hsz fun q _ _ ⟨o, ho, hoq⟩ => hoth q (by have := hd' o ho; simp [Value.ownBlock] at this; omega), hd'⟩

theorem exists_list {P : Nat → List Int → Prop} (n : Nat) (h : ∀ j, j < n → ∃ x, P j x) : ∃ L : List (List Int), L.length = n ∧ ∀ j, j < n → P j (L.getD j []) := by
  induction n with
  | zero => exact ⟨[], rfl, fun j hj => absurd hj (by omega)⟩
  | succ n ih =>
    obtain ⟨L, hL, hP⟩ := ih fun j hj => h j (by omega)
    obtain ⟨x, hx⟩ := h n (by omega)
    refine ⟨L ++ [x], by simp [hL], fun j hj => ?_⟩
    by_cases hjn : j = n
    · subst hjn
      rw [List.getD_eq_getElem?_getD, List.getElem?_append_right (by omega), hL]
      simpa using hx
    · have := hP j (by omega)
      rw [List.getD_eq_getElem?_getD, List.getElem?_append_left (by omega), ← List.getD_eq_getElem?_getD]
      exact this

/-- A drawn net can be read. -/
theorem NetOwn.lists {B : Nat} {v : World} {u : Value} {k : Nat} {cells : List Value} (h : NetOwn B v u k cells) (hk : k ≤ 5) : ∃ a c L, u = .slice a k c ∧ Lists v a (3 * k) L ∧ sizeN k L ≤ 35 ∧ (∀ o, a = some o → B ≤ o.block) := by
  have hcl : cells.length = 3 * k := by have := h.own.1; omega
  obtain ⟨L, hL, hP⟩ := exists_list (P := fun j x => ∃ a n c, cells[j]? = some (.slice a n c) ∧ n ≤ 2 ∧ NewL B v a n c x) (3 * k) fun j hj => by
    obtain ⟨a, n, c, xs, e, hn, hl, _⟩ := h.tris j hj
    exact ⟨xs, a, n, c, e, hn, hl⟩
  have hsz : ∀ q, q ≤ 3 * k → sizeL (L.take q) ≤ 2 * q := by
    intro q
    induction q with
    | zero => intro _; simp [sizeL]
    | succ q ih =>
      intro hq
      rw [sizeL_take_succ L q (by omega)]
      obtain ⟨a, n, c, _, hn, hl⟩ := hP q (by omega)
      have := hl.row.1
      have := ih (by omega)
      omega
  have hs : sizeN k L ≤ 35 := by
    unfold sizeN
    have := hsz (3 * k) (Nat.le_refl _)
    rw [List.take_of_length_le (by omega)] at this
    omega
  rcases h.own.2 with ⟨e, h0⟩ | ⟨g, cp, cur, e, hg, hh, _, _, hsc, htk⟩
  · subst h0
    exact ⟨none, 0, L, e, ⟨hL, .inl rfl⟩, hs, fun o ho => by cases ho⟩
  · refine ⟨_, cp, L, e, ⟨hL, .inr ⟨g, 0, rfl, (Array.getElem?_eq_some_iff.mp hh).1, fun j hj => ?_⟩⟩, hs, fun o ho => by obtain rfl := Option.some.inj ho; exact hg⟩
    obtain ⟨a, n, c, e1, hn, hl⟩ := hP j hj
    refine ⟨a, n, c, ?_, by unfold maxLen; omega, hl.row⟩
    rw [cell_of_row v g (0 + j) cur _ _ hh, Nat.zero_add]
    have e2 : (cur.toList.take (k * 3))[j]? = cells[j]? := by rw [htk]
    rw [List.getElem?_take_of_lt (by omega), Array.getElem?_toList] at e2
    rw [e2, e1]
end Go.Proofs.Ytgeondcahdpbgaa
