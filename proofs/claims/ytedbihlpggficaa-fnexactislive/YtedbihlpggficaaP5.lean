/- Contracts that the proof stands on, one behind the other. -/
import Derived.Test.YtedbihlpggficaaP4
import Derived.Laws.StructEq
/- The program's Fire, for every net, mark and number in memory. -/
namespace Go.Proofs.Ytedbihlpggficaa
open Go.RowKit
set_option maxRecDepth 10000

/-- A list in a block of its own and a bool; nothing that was there is written. -/
def LEnd (g : Bool) (r : List Int) (w : World) (e : Ending) (w' : World) : Prop :=
  ∃ a b n, e = .returned (.tuple #[.slice a n n, .bool g]) ∧ Blk w' a b n r ∧ w.heap.size ≤ b ∧ Below w.heap.size w w'

theorem lend_no {p : Int} {n : Nat} {L : List (List Int)} {ys : List Int} {t : Int} {w w' : World} (h : fireOk p n L ys t = false) (hb : Below w.heap.size w w') : LEnd (fireOk p n L ys t) (fireR p n L ys t) w (.returned (.tuple #[.slice none 0 0, .bool false])) w' := by
  refine ⟨none, w.heap.size, 0, by rw [h], ⟨?_, .inl rfl⟩, Nat.le_refl _, hb⟩
  unfold fireR; rw [h]; rfl

theorem lend_yes {p : Int} {n : Nat} {L : List (List Int)} {ys : List Int} {t : Int} {w w' : World} {b m : Nat} (h : fireOk p n L ys t = true) (hl : (firedL L ys t).length = m) (hh : w'.heap[b]? = some (.cells (cellsOf (firedL L ys t)) 3 (0, 0))) (hB : w.heap.size ≤ b) (hb : Below w.heap.size w w') :
    LEnd (fireOk p n L ys t) (fireR p n L ys t) w (.returned (.tuple #[.slice (some ⟨b, 0, none⟩) m m, .bool true])) w' := by
  have hr : fireR p n L ys t = firedL L ys t := by unfold fireR; rw [h]; rfl
  exact ⟨_, b, m, by rw [h], ⟨by rw [hr]; exact hl, .inr ⟨rfl, by rw [hr]; exact hh⟩⟩, hB, hb⟩

theorem fireL_len (x0 x1 x2 ys : List Int) : (fireL x0 x1 x2 ys).length = ys.length := by unfold fireL; rw [updL_len, updL_len, updL_len]

/-- By sets as by lists. -/
theorem fire_eq {p : Int} {n nm : Nat} {L : List (List Int)} {ys : List Int} {t : Int} (hnet : netOk p n L = true) (hg : goodB p ys = true) (hl : ys.length = nm) :
    fireB n L (fOf ys nm) t = fireOk p n L ys t ∧ (fireOk p n L ys t = true → listF (partF (maskL (inOf L t)) (maskL (outOf L t)) (maskL (resOf L t)) (fOf ys nm) 16) nm = firedL L ys t) := by
  obtain ⟨hp, hlp, hy⟩ := goodB_parts hg
  have hnm : (nm : Int) = p := by omega
  unfold fireB fireOk
  rw [hnet, hg]
  by_cases g2 : inB t 0 ((n : Int) - 1) = true
  rotate_left
  · have g2' : inB t 0 ((n : Int) - 1) = false := by simpa using g2
    rw [g2']; exact ⟨rfl, fun h => by simp at h⟩
  have ht : 0 ≤ t ∧ t ≤ (n : Int) - 1 := by simpa [inB] using g2
  have htri := tri_rise (triOkOf hnet (show t.toNat < n by omega))
  obtain ⟨h0, h1, h2⟩ := htri
  have e1 := can_sub (x0 := inOf L t) hp hnm hy h0
  rw [g2, e1]
  by_cases hc : canB (inOf L t) ys = true
  · have e2 := good_cap (x0 := inOf L t) (x1 := outOf L t) (x2 := resOf L t) hp hnm hl hy h0 h1 h2 hc
    refine ⟨?_, fun _ => list_fire (x0 := inOf L t) (x1 := outOf L t) (x2 := resOf L t) hp hnm hl h0 h1 h2⟩
    unfold firedL; rw [e2, hc]; rfl
  · have hc' : canB (inOf L t) ys = false := by simpa using hc
    rw [hc']; exact ⟨rfl, fun h => by simp at h⟩

theorem partF_small {s0 s1 s2 : Nat} {f : Nat → Int} (hf : ∀ i, 0 ≤ f i ∧ f i ≤ 50) (hen : ∀ i, s0.testBit i = true → 0 < f i) (k i : Nat) : 0 ≤ partF s0 s1 s2 f k i ∧ partF s0 s1 s2 f k i ≤ 255 := by
  have h1 := hf i
  have h2 := hen i
  unfold partF stepF
  split
  · cases h3 : s0.testBit i
    · simp only [Bool.false_eq_true, if_false]
      (repeat' split) <;> omega
    · have := h2 h3
      simp only [if_true]
      (repeat' split) <;> omega
  · omega

end Go.Proofs.Ytedbihlpggficaa


/- What the second half of a law over a net and a list keeps in mind: the net and the list handed in, the list answered, each in blocks of their own, and the specification's answer, while memory grows and blocks are marked. -/
namespace Go.Proofs.Ytedbihlpggficaa
open Go.RowKit

theorem PartF.lists {w : World} {B hi n : Nat} {T : TypeId} {L : List (List Int)} (h : PartF w B hi (3 * n) T (fun j => L.getD j [])) (hl : L.length = 3 * n) (hs : sizeN n L ≤ 1048576) : Lists w (some ⟨B, 0, none⟩) (3 * n) L := by
  obtain ⟨C, f, h1, h2, h3, h4⟩ := h
  refine ⟨hl, .inr ⟨B, 0, rfl, (Array.getElem?_eq_some_iff.mp h1).1, fun j hj => ?_⟩⟩
  obtain ⟨e1, e2, e3, e4⟩ := h3 j hj
  refine ⟨_, _, _, by rw [cell_of_row w B (0 + j) C T _ h1, Nat.zero_add]; exact e1, ?_, e4.row⟩
  have := len_le L j
  show (L.getD j []).length ≤ maxLen
  unfold sizeN at hs; unfold maxLen; omega

theorem cntF_size (L : List (List Int)) (k : Nat) (hk : k ≤ L.length) : cntF (fun j => L.getD j []) k = sizeL (L.take k) := by
  induction k with
  | zero => simp [cntF, sizeL]
  | succ k ih => simp only [cntF]; rw [ih (by omega), sizeL_take_succ L k (by omega)]

theorem cntF_all {L : List (List Int)} {n : Nat} (hl : L.length = 3 * n) : cntF (fun j => L.getD j []) (3 * n) = sizeL L := by
  rw [cntF_size L (3 * n) (by omega), List.take_of_length_le (by omega)]

/-- w: the world ahead of the law; u: behind the specification's answer; v: now. -/
structure Sn (w u v : World) (p : Int) (a : Option Addr) (n c B hi bx : Nat) (M : Nat → List Int) (ax : Option Addr) (b1 nm : Nat) (ly : List Int) (ag : Option Addr) (bg ng : Nat) (lg : List Int) : Prop where
  old : Below w.heap.size w v
  mid : Below u.heap.size u v
  par : v.heap[w.heap.size]? = some (.cells #[.int .i64 p, .slice a n c] 24 (0, 0))
  x0 : v.heap[bx]? = some (.cells #[.int .i64 p, .slice (some ⟨B, 0, none⟩) n n] 35 (0, 0))
  net : PartF v B hi (3 * n) 99 M
  x1 : Blk v ax b1 nm ly
  g : Blk v ag bg ng lg

variable {w u v v' : World} {p : Int} {a : Option Addr} {n c B hi bx : Nat} {M : Nat → List Int} {ax : Option Addr} {b1 nm : Nat} {ly : List Int} {ag : Option Addr} {bg ng : Nat} {lg l : List Int}

theorem Sn.grow (h : Sn w u v p a n c B hi bx M ax b1 nm ly ag bg ng lg) (hb : Below v.heap.size v v') : Sn w u v' p a n c B hi bx M ax b1 nm ly ag bg ng lg :=
  ⟨h.old.trans (hb.mono h.old.size), h.mid.trans (hb.mono h.mid.size), keep h.par hb, keep h.x0 hb, h.net.grow hb, h.x1.grow' hb, h.g.grow' hb⟩

theorem Sn.markN {M' : Nat → List Int} (h : Sn w u v p a n c B hi bx M ax b1 nm ly ag bg ng lg) (hm : PartF v' B hi (3 * n) 99 M') (hk : Keeps (B + 1) hi v v') (h1 : w.heap.size ≤ B) (h2 : u.heap.size ≤ B) (hx : hi ≤ bx) (hy : hi ≤ b1) (hg : hi ≤ bg) :
    Sn w u v' p a n c B hi bx M' ax b1 nm ly ag bg ng lg :=
  ⟨h.old.trans (hk.bel.mono (by omega)), h.mid.trans (hk.bel.mono (by omega)), (hk.bel.block _ (by omega)).trans h.par, (hk.top bx hx (row_lt h.x0)).trans h.x0, hm, h.x1.keeps hk hy, h.g.keeps hk hg⟩

theorem PartF.only {w w' : World} {B hi n b : Nat} {T : TypeId} {M : Nat → List Int} (h : PartF w B hi n T M) (ho : Only b w w') (hb : hi ≤ b) (hB : B ≠ b) : PartF w' B hi n T M := by
  obtain ⟨C, f, h1, h2, h3, h4⟩ := h
  refine ⟨C, f, (ho.block B hB).trans h1, h2, fun j hj => ?_, h4⟩
  obtain ⟨e1, e2, e3, e4⟩ := h3 j hj
  exact ⟨e1, e2, e3, e4.only ho (by omega)⟩

theorem Sn.markX (h : Sn w u v p a n c B hi bx M ax b1 nm ly ag bg ng lg) (hm : Blk v' ax b1 nm l) (ho : Only b1 v v') (h1 : w.heap.size < b1) (h2 : u.heap.size ≤ b1) (hb : hi ≤ b1) (hB : B ≠ b1) (hx : bx ≠ b1) (hg : bg ≠ b1) :
    Sn w u v' p a n c B hi bx M ax b1 nm l ag bg ng lg :=
  ⟨h.old.trans (ho.below (by omega)), h.mid.trans (ho.below h2), (ho.block _ (by omega)).trans h.par, (ho.block _ hx).trans h.x0, h.net.only ho hb hB, hm, h.g.only ho hg⟩

theorem Sn.markG (h : Sn w u v p a n c B hi bx M ax b1 nm ly ag bg ng lg) (hm : Blk v' ag bg ng l) (ho : Only bg v v') (h1 : w.heap.size < bg) (h2 : u.heap.size ≤ bg) (hb : hi ≤ bg) (hB : B ≠ bg) (hx : bx ≠ bg) (hy : b1 ≠ bg) :
    Sn w u v' p a n c B hi bx M ax b1 nm ly ag bg ng l :=
  ⟨h.old.trans (ho.below (by omega)), h.mid.trans (ho.below h2), (ho.block _ (by omega)).trans h.par, (ho.block _ hx).trans h.x0, h.net.only ho hb hB, h.x1.only ho hy, hm⟩

theorem blk_new' (w : World) (xs : List Int) (n : Nat) (hl : xs.length = n) : Blk (w.alloc (.cells (cellsOf xs) 3)) (some ⟨w.heap.size, 0, none⟩) w.heap.size n xs :=
  ⟨hl, .inr ⟨rfl, heap_alloc_new _ _⟩⟩
end Go.Proofs.Ytedbihlpggficaa


/- Lists that an append has made: a block of its own, in which there may be more room; what markIntS writes into one; and the state of a law over a net whose answer is such a list. -/
namespace Go.Proofs.Ytedbihlpggficaa
open Go.RowKit

/-- A slice of n numbers from the head of the block b, in which there may be more room; or an empty one. -/
def Ob (w : World) (a : Option Addr) (b n : Nat) (xs : List Int) : Prop :=
  xs.length = n ∧ (n = 0 ∨ (a = some ⟨b, 0, none⟩ ∧ ∃ cur, w.heap[b]? = some (.cells cur 3 (0, 0)) ∧ n ≤ cur.size ∧ ∀ i, i < n → cur[i]? = some (.int .i64 (xs.getD i 0))))

theorem Ob.row {w : World} {a : Option Addr} {b n : Nat} {xs : List Int} (h : Ob w a b n xs) : Row w a n xs := by
  rcases h.2 with h0 | ⟨e, cur, h1, h2, h3⟩
  · exact ⟨h.1, .inl h0⟩
  · refine ⟨h.1, .inr ⟨b, 0, e, (Array.getElem?_eq_some_iff.mp h1).1, fun i hi => ?_⟩⟩
    rw [cell_of_row w b (0 + i) _ _ _ h1, Nat.zero_add]
    exact h3 i hi

theorem Ob.grow {w w' : World} {a : Option Addr} {b n : Nat} {xs : List Int} (h : Ob w a b n xs) (hb : Below w.heap.size w w') : Ob w' a b n xs := by
  refine ⟨h.1, ?_⟩
  rcases h.2 with h0 | ⟨e, cur, h1, h2⟩
  · exact .inl h0
  · exact .inr ⟨e, cur, (hb.block b (Array.getElem?_eq_some_iff.mp h1).1).trans h1, h2⟩

theorem Ob.only {w w' : World} {a : Option Addr} {b c n : Nat} {xs : List Int} (h : Ob w a b n xs) (ho : Only c w w') (hB : b ≠ c) : Ob w' a b n xs := by
  refine ⟨h.1, ?_⟩
  rcases h.2 with h0 | ⟨e, cur, h1, h2⟩
  · exact .inl h0
  · exact .inr ⟨e, cur, (ho.block b hB).trans h1, h2⟩

theorem Ob.keeps {w w' : World} {a : Option Addr} {b n lo hi : Nat} {xs : List Int} (h : Ob w a b n xs) (hk : Keeps lo hi w w') (hb : hi ≤ b) : Ob w' a b n xs := by
  refine ⟨h.1, ?_⟩
  rcases h.2 with h0 | ⟨e, cur, h1, h2⟩
  · exact .inl h0
  · exact .inr ⟨e, cur, (hk.top b hb (Array.getElem?_eq_some_iff.mp h1).1).trans h1, h2⟩

/-- The first k of n numbers are there. -/
def FillR (xs : List Int) (n k : Nat) (cs : Array Value) : Prop := n ≤ cs.size ∧ ∀ i, i < k → cs[i]? = some (.int .i64 (xs.getD i 0))

theorem set_fillR {xs : List Int} {n k : Nat} {cs : Array Value} {x : Int} (h : FillR xs n k cs) (hk : k < n) (hx : xs.getD k 0 = x) : FillR xs n (k + 1) (cs.setIfInBounds k (.int .i64 x)) := by
  obtain ⟨h1, h2⟩ := h
  refine ⟨by simp; exact h1, fun i hi => ?_⟩
  rw [Array.getElem?_setIfInBounds]
  by_cases e : k = i
  · subst e; rw [if_pos rfl, if_pos (by omega), hx]
  · rw [if_neg e]; exact h2 i (by omega)

set_option maxHeartbeats 400000 in
theorem markO_any (a : Option Addr) (b n c k0 : Nat) (xs : List Int) (w : World) (h : Ob w a b n xs) (hn : n ≤ 1048576) (hk0 : k0 ≤ 4194304) :
    Calls Try.prog 18 #[.slice a n c, .int .i64 (k0 : Int)] w fun e w' => e = .returned (.int .i64 ((k0 + n : Nat) : Int)) ∧ Ob w' a b n (seqL k0 n) ∧ Only b w w' := by
  have HB := hide h
  clear h
  go_enter Try.func18, Try.ntmps18
  go_wp2
  go_loopw [1, 5] (fun t i wr => ∃ k : Nat, k ≤ n ∧ i = .int .i64 k ∧ t = .int .i64 ((k0 + k : Nat) : Int) ∧ Only b w wr ∧ (n = 0 ∨ (a = some ⟨b, 0, none⟩ ∧ ∃ cs, FillR (seqL k0 n) n k cs ∧ wr.heap[b]? = some (.cells cs 3 (0, 0))))) (fun _ i _ => n - (intOf i).toNat)
  case atStart =>
    refine ⟨0, Nat.zero_le _, rfl, rfl, Only.refl _ _, ?_⟩
    rcases HB.out.2 with h0 | ⟨e, hh⟩
    · exact .inl h0
    · obtain ⟨cur, q1, q2, _⟩ := hh
      exact .inr ⟨e, cur, ⟨q2, fun i hi => absurd hi (by omega)⟩, q1⟩
  case round =>
    obtain ⟨k, hk, rfl, rfl, ho, hd⟩ := hrel
    by_cases hlt : k < n
    · obtain ⟨rfl, cs, hf, hh⟩ : a = some ⟨b, 0, none⟩ ∧ ∃ cs, FillR (seqL k0 n) n k cs ∧ wr.heap[b]? = some (.cells cs 3 (0, 0)) := by
        rcases hd with h0 | h
        · omega
        · exact h
      have HF := hide (set_fillR hf hlt (seqL_at k0 n k hlt))
      have hsz := hf.1
      obtain ⟨v0, hv0⟩ : ∃ v0, wr.cell? ⟨b, k, none⟩ = some v0 := ⟨_, by rw [cell_of_row wr b k cs _ _ hh]; exact Array.getElem?_eq_getElem (by omega)⟩
      have hfr := frozen_of_row wr b k cs _ hh
      have HH := hide (heap_setCell_same wr b k cs _ (.int .i64 ((k0 + k : Nat) : Int)) hh)
      have HO := hide (ho.setCell k (.int .i64 ((k0 + k : Nat) : Int)))
      have hb1 : ((k0 + k : Nat) : Int) ≤ 5242880 := by omega
      have hb0 : (0 : Int) ≤ ((k0 + k : Nat) : Int) := by omega
      obtain ⟨t, ht⟩ : ∃ t : Nat, Hid (k0 + k = t) := ⟨_, rfl⟩
      rw [ht.out] at hb1 hb0 HF HH HO ⊢
      clear hd ho hf hh HB
      go_wp2
      go_roundw
      case rel => exact ⟨k + 1, by omega, by go_num, by rw [show k0 + (k + 1) = t + 1 by have := ht.out; omega]; go_num, HO.out, by first | exact .inr ⟨rfl, _, HF.out, HH.out⟩ | exact .inr ⟨trivial, _, HF.out, HH.out⟩⟩
      case measure => simp [intOf]; omega
    · have hk' : k = n := by omega
      subst hk'
      have HD := hide hd
      have HO := hide ho
      clear hd ho
      go_wp2
      go_ret
      refine ⟨rfl, ⟨seqL_len _ _, ?_⟩, HO.out⟩
      rcases HD.out with h0 | ⟨e, cs, hf, hh⟩
      · exact .inl h0
      · exact .inr ⟨e, cs, hh, hf.1, hf.2⟩


/-- w: the world ahead of the law; u: behind the specification's answer; v: now. -/
structure So (w u v : World) (p : Int) (a : Option Addr) (n c B hi bx : Nat) (M : Nat → List Int) (ax : Option Addr) (b1 nm : Nat) (ly : List Int) (ag : Option Addr) (bg ng : Nat) (lg : List Int) : Prop where
  old : Below w.heap.size w v
  mid : Below u.heap.size u v
  par : v.heap[w.heap.size]? = some (.cells #[.int .i64 p, .slice a n c] 24 (0, 0))
  x0 : v.heap[bx]? = some (.cells #[.int .i64 p, .slice (some ⟨B, 0, none⟩) n n] 35 (0, 0))
  net : PartF v B hi (3 * n) 99 M
  x1 : Blk v ax b1 nm ly
  g : Ob v ag bg ng lg

variable {w u v v' : World} {p : Int} {a : Option Addr} {n c B hi bx : Nat} {M : Nat → List Int} {ax : Option Addr} {b1 nm : Nat} {ly : List Int} {ag : Option Addr} {bg ng : Nat} {lg l : List Int}

theorem So.grow (h : So w u v p a n c B hi bx M ax b1 nm ly ag bg ng lg) (hb : Below v.heap.size v v') : So w u v' p a n c B hi bx M ax b1 nm ly ag bg ng lg :=
  ⟨h.old.trans (hb.mono h.old.size), h.mid.trans (hb.mono h.mid.size), keep h.par hb, keep h.x0 hb, h.net.grow hb, h.x1.grow' hb, h.g.grow hb⟩

theorem So.markN {M' : Nat → List Int} (h : So w u v p a n c B hi bx M ax b1 nm ly ag bg ng lg) (hm : PartF v' B hi (3 * n) 99 M') (hk : Keeps (B + 1) hi v v') (h1 : w.heap.size ≤ B) (h2 : u.heap.size ≤ B) (hx : hi ≤ bx) (hy : hi ≤ b1) (hg : hi ≤ bg) :
    So w u v' p a n c B hi bx M' ax b1 nm ly ag bg ng lg :=
  ⟨h.old.trans (hk.bel.mono (by omega)), h.mid.trans (hk.bel.mono (by omega)), (hk.bel.block _ (by omega)).trans h.par, (hk.top bx hx (row_lt h.x0)).trans h.x0, hm, h.x1.keeps hk hy, h.g.keeps hk hg⟩

theorem So.markX (h : So w u v p a n c B hi bx M ax b1 nm ly ag bg ng lg) (hm : Blk v' ax b1 nm l) (ho : Only b1 v v') (h1 : w.heap.size < b1) (h2 : u.heap.size ≤ b1) (hb : hi ≤ b1) (hB : B ≠ b1) (hx : bx ≠ b1) (hg : bg ≠ b1) :
    So w u v' p a n c B hi bx M ax b1 nm l ag bg ng lg :=
  ⟨h.old.trans (ho.below (by omega)), h.mid.trans (ho.below h2), (ho.block _ (by omega)).trans h.par, (ho.block _ hx).trans h.x0, h.net.only ho hb hB, hm, h.g.only ho hg⟩

theorem So.markG (h : So w u v p a n c B hi bx M ax b1 nm ly ag bg ng lg) (hm : Ob v' ag bg ng l) (ho : Only bg v v') (h1 : w.heap.size < bg) (h2 : u.heap.size ≤ bg) (hb : hi ≤ bg) (hB : B ≠ bg) (hx : bx ≠ bg) (hy : b1 ≠ bg) :
    So w u v' p a n c B hi bx M ax b1 nm ly ag bg ng l :=
  ⟨h.old.trans (ho.below (by omega)), h.mid.trans (ho.below h2), (ho.block _ (by omega)).trans h.par, (ho.block _ hx).trans h.x0, h.net.only ho hb hB, h.x1.only ho hy, hm⟩
end Go.Proofs.Ytedbihlpggficaa


/- The numbers of the transitions of a net that are as asked: the specification's TakersOf and GiversOf. -/
namespace Go.Proofs.Ytedbihlpggficaa
open Go.RowKit

/-- The numbers below k that are as asked. -/
def numsL (f : Nat → Bool) (k : Nat) : List Int := ((List.range k).filter f).map fun (i : Nat) => (i : Int)

theorem numsL_yes {f : Nat → Bool} {k : Nat} (h : f k = true) : numsL f (k + 1) = numsL f k ++ [(k : Int)] := by simp [numsL, List.range_succ, List.filter_append, h]
theorem numsL_no {f : Nat → Bool} {k : Nat} (h : f k = false) : numsL f (k + 1) = numsL f k := by simp [numsL, List.range_succ, List.filter_append, h]
theorem numsL_len (f : Nat → Bool) (k : Nat) : (numsL f k).length ≤ k := by
  unfold numsL
  rw [List.length_map]
  have := List.length_filter_le f (List.range k)
  rwa [List.length_range] at this

/-- A list that an append has made, handed back alone. -/
def NumsEnd (f : Nat → Bool) (n : Nat) (w : World) (e : Ending) (w' : World) : Prop :=
  ∃ v m, e = .returned v ∧ w'.ownsRow w.heap.size 3 1 v m ((numsL f n).map (Value.int .i64)) ∧ Below w.heap.size w w'

theorem own_below {B : Nat} {w w' : World} {v : Value} {n : Nat} {l : List Value} (hown : w.ownsRow B 3 1 v n l) (hg : w.grownBy w' v.ownBlock) {a : World} {C : Nat} (h : Below C a w) (hC : C ≤ w.heap.size) (hB : C ≤ B) : Below C a w' := by
  refine h.grown hg hC fun k hk => ?_
  rcases hown.2 with ⟨rfl, _⟩ | ⟨g, cap, cur, rfl, hb, _⟩
  · simp [Value.ownBlock] at hk
  · simp [Value.ownBlock] at hk; omega

theorem one_cell (w : World) (v : Value) : ∀ j u, ([v] : List Value)[j]? = some u → (w.alloc (.cells #[v] 3)).cell? ((⟨w.heap.size, 0, none⟩ : Addr).add j) = some u := by
  intro j u hu
  match j, hu with
  | 0, hu =>
    simp at hu; subst hu
    rw [Addr.add_mid]
    exact cell_of_row _ w.heap.size 0 #[v] _ _ (heap_alloc_new _ _)
  | (q + 1), hu => simp at hu

end Go.Proofs.Ytedbihlpggficaa


/- The search through all marks as a plain function on lists: what the program and the specification both follow. -/
namespace Go.Proofs.Ytedbihlpggficaa
open Go.RowKit

/-- The marks that are met so far, and the arcs (from, by, to). -/
structure Sea where
  ms : List (List Int)
  ar : List (Nat × Nat × Nat)

def canT (L : List (List Int)) (m : List Int) (t : Nat) : Bool := canB (L.getD (3 * t) []) m
def fireT (L : List (List Int)) (m : List Int) (t : Nat) : List Int := firedL L m (t : Int)

/-- A mark is met. -/
def meetS (B : Nat) (m : List Int) (k t : Nat) (s : Sea) : Except Nat Sea :=
  if m ∈ s.ms then .ok ⟨s.ms, s.ar ++ [(k, t, s.ms.idxOf m)]⟩
  else if s.ms.length = B then .error 2 else .ok ⟨s.ms ++ [m], s.ar ++ [(k, t, s.ms.length)]⟩

def oneS (p : Int) (L : List (List Int)) (B : Nat) (m : List Int) (k t : Nat) (s : Sea) : Except Nat Sea :=
  if goodB p (fireT L m t) then meetS B (fireT L m t) k t s else .error 3

/-- All of some transitions out of one mark. -/
def rowS (p : Int) (L : List (List Int)) (B : Nat) (m : List Int) (k : Nat) : List Nat → Sea → Except Nat Sea
  | [], s => .ok s
  | t :: r, s => if canT L m t then (match oneS p L B m k t s with | .ok s' => rowS p L B m k r s' | .error c => .error c) else rowS p L B m k r s

/-- All marks from number k on. -/
def seaS (p : Int) (n : Nat) (L : List (List Int)) (B : Nat) : Nat → Nat → Sea → Except Nat Sea
  | 0, _, s => .ok s
  | f + 1, k, s => if k < s.ms.length then (match rowS p L B (s.ms.getD k []) k (List.range n) s with | .ok s' => seaS p n L B f (k + 1) s' | .error c => .error c) else .ok s

def sea0 (ys : List Int) : Sea := ⟨[ys], []⟩

def searchS (p : Int) (n : Nat) (L : List (List Int)) (B : Nat) (ys : List Int) : Except Nat Sea := seaS p n L B B 0 (sea0 ys)

def codeS : Except Nat Sea → Nat
  | .ok _ => 1
  | .error c => c

def endS : Except Nat Sea → Sea
  | .ok s => s
  | .error _ => ⟨[], []⟩

/-- What holds of marks and arcs on the way. -/
structure SeaOk (p : Int) (n B : Nat) (s : Sea) : Prop where
  pos : 0 < s.ms.length
  le : s.ms.length ≤ B
  good : ∀ m ∈ s.ms, goodB p m = true
  nodup : s.ms.Nodup
  arc : ∀ a ∈ s.ar, a.1 < s.ms.length ∧ a.2.1 < n ∧ a.2.2 < s.ms.length

theorem SeaOk.start {p : Int} {n B : Nat} {ys : List Int} (hB : 1 ≤ B) (hy : goodB p ys = true) : SeaOk p n B (sea0 ys) :=
  ⟨by simp [sea0], by simpa [sea0] using hB, by simp [sea0, hy], by simp [sea0], by simp [sea0]⟩

theorem SeaOk.goodAt {p : Int} {n B : Nat} {s : Sea} (h : SeaOk p n B s) {k : Nat} (hk : k < s.ms.length) : goodB p (s.ms.getD k []) = true := by
  refine h.good _ ?_
  rw [List.getD_eq_getElem?_getD, List.getElem?_eq_getElem hk]
  exact List.getElem_mem hk

/-- One arc more, to a mark that is there. -/
theorem SeaOk.old {p : Int} {n B : Nat} {s : Sea} (h : SeaOk p n B s) {k t j : Nat} (hk : k < s.ms.length) (ht : t < n) (hj : j < s.ms.length) : SeaOk p n B ⟨s.ms, s.ar ++ [(k, t, j)]⟩ :=
  ⟨h.pos, h.le, h.good, h.nodup, fun a ha => by
    rcases List.mem_append.1 ha with ha | ha
    · exact h.arc a ha
    · simp at ha; subst ha; exact ⟨hk, ht, hj⟩⟩

/-- .. to a new one. -/
theorem SeaOk.new {p : Int} {n B : Nat} {s : Sea} (h : SeaOk p n B s) {m : List Int} {k t : Nat} (hm : goodB p m = true) (hn : m ∉ s.ms) (hB : s.ms.length ≠ B) (hk : k < s.ms.length) (ht : t < n) : SeaOk p n B ⟨s.ms ++ [m], s.ar ++ [(k, t, s.ms.length)]⟩ :=
  ⟨by simp, by have := h.le; simp; omega, fun x hx => by
    rcases List.mem_append.1 hx with hx | hx
    · exact h.good x hx
    · simp at hx; subst hx; exact hm, by
    rw [List.nodup_append]
    exact ⟨h.nodup, by simp, fun a ha b hb e => hn (by simp at hb; subst hb; subst e; exact ha)⟩, fun a ha => by
    rcases List.mem_append.1 ha with ha | ha
    · have := h.arc a ha; simp; omega
    · simp at ha; subst ha; simp; omega⟩

theorem meetS_ok {p : Int} {n B : Nat} {s s' : Sea} {m : List Int} {k t : Nat} (h : SeaOk p n B s) (hm : goodB p m = true) (hk : k < s.ms.length) (ht : t < n) (he : meetS B m k t s = .ok s') :
    SeaOk p n B s' ∧ s'.ar.length = s.ar.length + 1 ∧ s.ms <+: s'.ms := by
  unfold meetS at he
  by_cases h1 : m ∈ s.ms
  · rw [if_pos h1] at he
    cases he
    exact ⟨h.old hk ht (List.idxOf_lt_length_of_mem h1), by simp, List.prefix_refl _⟩
  · rw [if_neg h1] at he
    by_cases h2 : s.ms.length = B
    · rw [if_pos h2] at he; cases he
    · rw [if_neg h2] at he
      cases he
      exact ⟨h.new hm h1 h2 hk ht, by simp, List.prefix_append _ _⟩

theorem oneS_ok {p : Int} {n B : Nat} {L : List (List Int)} {s s' : Sea} {m : List Int} {k t : Nat} (h : SeaOk p n B s) (hk : k < s.ms.length) (ht : t < n) (he : oneS p L B m k t s = .ok s') :
    SeaOk p n B s' ∧ s'.ar.length = s.ar.length + 1 ∧ s.ms <+: s'.ms := by
  unfold oneS at he
  by_cases h1 : goodB p (fireT L m t) = true
  · rw [if_pos h1] at he; exact meetS_ok h h1 hk ht he
  · rw [if_neg h1] at he; cases he

theorem oneS_err {p : Int} {B : Nat} {L : List (List Int)} {s : Sea} {m : List Int} {k t c : Nat} (he : oneS p L B m k t s = .error c) : c = 2 ∨ c = 3 := by
  unfold oneS meetS at he
  repeat' split at he
  all_goals first | (cases he; omega) | (cases he)

theorem prefix_getD {α : Type} {l l' : List α} (h : l <+: l') {k : Nat} (hk : k < l.length) (d : α) : l'.getD k d = l.getD k d := by
  obtain ⟨r, rfl⟩ := h
  rw [List.getD_eq_getElem?_getD, List.getD_eq_getElem?_getD, List.getElem?_append_left hk]

theorem rowS_ok {p : Int} {n B : Nat} {L : List (List Int)} {m : List Int} {k : Nat} : ∀ {ts : List Nat} {s s' : Sea}, SeaOk p n B s → k < s.ms.length → (∀ t ∈ ts, t < n) → rowS p L B m k ts s = .ok s' →
    SeaOk p n B s' ∧ s'.ar.length ≤ s.ar.length + ts.length ∧ s.ms <+: s'.ms
  | [], s, s', h, _, _, he => by
    unfold rowS at he; cases he; exact ⟨h, by simp, List.prefix_refl _⟩
  | t :: r, s, s', h, hk, ht, he => by
    unfold rowS at he
    by_cases hc : canT L m t = true
    · rw [if_pos hc] at he
      cases h1 : oneS p L B m k t s with
      | error c => rw [h1] at he; cases he
      | ok s1 =>
        rw [h1] at he
        obtain ⟨a1, a2, a3⟩ := oneS_ok h hk (ht t (by simp)) h1
        obtain ⟨b1, b2, b3⟩ := rowS_ok a1 (Nat.lt_of_lt_of_le hk a3.length_le) (fun x hx => ht x (by simp [hx])) he
        exact ⟨b1, by simp; omega, a3.trans b3⟩
    · rw [if_neg hc] at he
      obtain ⟨b1, b2, b3⟩ := rowS_ok h hk (fun x hx => ht x (by simp [hx])) he
      exact ⟨b1, by simp; omega, b3⟩

theorem rowS_err {p : Int} {B : Nat} {L : List (List Int)} {m : List Int} {k : Nat} : ∀ {ts : List Nat} {s : Sea} {c : Nat}, rowS p L B m k ts s = .error c → c = 2 ∨ c = 3
  | [], s, c, he => by unfold rowS at he; cases he
  | t :: r, s, c, he => by
    unfold rowS at he
    split at he
    · split at he
      · exact rowS_err he
      · rename_i h1; cases he; exact oneS_err h1
    · exact rowS_err he

/-- The transitions that are not enabled may be left out. -/
theorem rowS_filter {p : Int} {B : Nat} {L : List (List Int)} {m : List Int} {k : Nat} : ∀ (ts : List Nat) (s : Sea), rowS p L B m k (ts.filter (canT L m)) s = rowS p L B m k ts s
  | [], s => rfl
  | t :: r, s => by
    by_cases hc : canT L m t = true
    · rw [List.filter_cons_of_pos hc]
      unfold rowS
      rw [if_pos hc, if_pos hc]
      split
      · exact rowS_filter r _
      · rfl
    · rw [List.filter_cons_of_neg (by simpa using hc), rowS_filter r s]
      conv => rhs; unfold rowS
      rw [if_neg hc]

theorem seaS_ok {p : Int} {n B : Nat} {L : List (List Int)} : ∀ {f k : Nat} {s s' : Sea}, SeaOk p n B s → seaS p n L B f k s = .ok s' → SeaOk p n B s' ∧ s'.ar.length ≤ s.ar.length + f * n ∧ s.ms <+: s'.ms
  | 0, k, s, s', h, he => by
    unfold seaS at he; cases he; exact ⟨h, by simp, List.prefix_refl _⟩
  | f + 1, k, s, s', h, he => by
    unfold seaS at he
    by_cases hk : k < s.ms.length
    · rw [if_pos hk] at he
      cases h1 : rowS p L B (s.ms.getD k []) k (List.range n) s with
      | error c => rw [h1] at he; cases he
      | ok s1 =>
        rw [h1] at he
        obtain ⟨a1, a2, a3⟩ := rowS_ok h hk (fun t ht => by simpa using ht) h1
        obtain ⟨b1, b2, b3⟩ := seaS_ok a1 he
        refine ⟨b1, ?_, a3.trans b3⟩
        rw [List.length_range] at a2
        rw [Nat.add_mul, Nat.one_mul]
        omega
    · rw [if_neg hk] at he; cases he; exact ⟨h, by simp, List.prefix_refl _⟩

theorem seaS_err {p : Int} {n B : Nat} {L : List (List Int)} : ∀ {f k : Nat} {s : Sea} {c : Nat}, seaS p n L B f k s = .error c → c = 2 ∨ c = 3
  | 0, k, s, c, he => by unfold seaS at he; cases he
  | f + 1, k, s, c, he => by
    unfold seaS at he
    split at he
    · split at he
      · exact seaS_err he
      · rename_i h1; cases he; exact rowS_err h1
    · cases he

/-- One mark more. -/
theorem seaS_go {p : Int} {n B : Nat} {L : List (List Int)} {k : Nat} {s : Sea} (h : SeaOk p n B s) (hk : k < s.ms.length) :
    seaS p n L B (B - k) k s = (match rowS p L B (s.ms.getD k []) k (List.range n) s with | .ok s' => seaS p n L B (B - (k + 1)) (k + 1) s' | .error c => .error c) := by
  have hle := h.le
  rw [show B - k = (B - (k + 1)) + 1 by omega]
  conv => lhs; unfold seaS
  rw [if_pos hk]

theorem seaS_done {p : Int} {n B : Nat} {L : List (List Int)} {k : Nat} {s : Sea} (hk : ¬ k < s.ms.length) : seaS p n L B (B - k) k s = .ok s := by
  cases B - k with
  | zero => rfl
  | succ f => unfold seaS; rw [if_neg hk]

theorem seaS_row {p : Int} {n B : Nat} {L : List (List Int)} {k : Nat} {s s' : Sea} {R : Except Nat Sea} (h : SeaOk p n B s) (hk : k < s.ms.length) (hR : seaS p n L B (B - k) k s = R) (h1 : rowS p L B (s.ms.getD k []) k (List.range n) s = .ok s') :
    seaS p n L B (B - (k + 1)) (k + 1) s' = R := by
  rw [seaS_go h hk, h1] at hR; exact hR

theorem seaS_stop {p : Int} {n B : Nat} {L : List (List Int)} {k c : Nat} {s : Sea} {R : Except Nat Sea} (h : SeaOk p n B s) (hk : k < s.ms.length) (hR : seaS p n L B (B - k) k s = R) (h1 : rowS p L B (s.ms.getD k []) k (List.range n) s = .error c) :
    R = .error c := by
  rw [seaS_go h hk, h1] at hR; exact hR.symm

/-- The transitions from t on. -/
def fromT (t n : Nat) : List Nat := List.range' t (n - t)

theorem fromT_all (n : Nat) : List.range n = fromT 0 n := by unfold fromT; rw [List.range_eq_range', Nat.sub_zero]
theorem fromT_cons {t n : Nat} (h : t < n) : fromT t n = t :: fromT (t + 1) n := by
  unfold fromT
  rw [show n - t = (n - (t + 1)) + 1 by omega, List.range'_succ]
theorem fromT_nil {t n : Nat} (h : ¬ t < n) : fromT t n = [] := by
  unfold fromT; rw [show n - t = 0 by omega]; rfl

theorem rowS_yes {p : Int} {n B : Nat} {L : List (List Int)} {m : List Int} {k t : Nat} {s s' : Sea} {R : Except Nat Sea} (ht : t < n) (hR : rowS p L B m k (fromT t n) s = R) (hc : canT L m t = true) (h1 : oneS p L B m k t s = .ok s') : rowS p L B m k (fromT (t + 1) n) s' = R := by
  rw [fromT_cons ht] at hR; unfold rowS at hR; rw [if_pos hc, h1] at hR; exact hR
theorem rowS_bad {p : Int} {n B : Nat} {L : List (List Int)} {m : List Int} {k t c : Nat} {s : Sea} {R : Except Nat Sea} (ht : t < n) (hR : rowS p L B m k (fromT t n) s = R) (hc : canT L m t = true) (h1 : oneS p L B m k t s = .error c) : R = .error c := by
  rw [fromT_cons ht] at hR; unfold rowS at hR; rw [if_pos hc, h1] at hR; exact hR.symm
theorem rowS_no {p : Int} {n B : Nat} {L : List (List Int)} {m : List Int} {k t : Nat} {s : Sea} {R : Except Nat Sea} (ht : t < n) (hR : rowS p L B m k (fromT t n) s = R) (hc : canT L m t = false) : rowS p L B m k (fromT (t + 1) n) s = R := by
  rw [fromT_cons ht] at hR; unfold rowS at hR; rw [if_neg (by simp [hc])] at hR; exact hR
theorem rowS_end {p : Int} {n B : Nat} {L : List (List Int)} {m : List Int} {k t : Nat} {s : Sea} {R : Except Nat Sea} (ht : ¬ t < n) (hR : rowS p L B m k (fromT t n) s = R) : R = .ok s := by
  rw [fromT_nil ht] at hR; exact hR.symm
end Go.Proofs.Ytedbihlpggficaa


/- What can come to one that is as asked: the least set that holds those and is closed backwards along the arcs; how many of the first N are told. Mathematics alone. -/
namespace Go.Proofs.Ytedbihlpggficaa
open Go.RowKit

/-- From i one can come to one that is as asked. -/
inductive CanTo (ar : List (Nat × Nat × Nat)) (G : Nat → Prop) : Nat → Prop
  | at_ {i : Nat} : G i → CanTo ar G i
  | step {i t j : Nat} : (i, t, j) ∈ ar → CanTo ar G j → CanTo ar G i

theorem CanTo.least {ar : List (Nat × Nat × Nat)} {G S : Nat → Prop} (hG : ∀ i, G i → S i) (hS : ∀ i t j, (i, t, j) ∈ ar → S j → S i) {i : Nat} (h : CanTo ar G i) : S i := by
  induction h with
  | at_ h => exact hG _ h
  | step h _ ih => exact hS _ _ _ h ih

/-- A set that holds those as asked, holds none else than can come there, and is closed backwards, is just those that can come there. -/
theorem canTo_iff {ar : List (Nat × Nat × Nat)} {G : Nat → Prop} {f : Nat → Bool} (hG : ∀ i, G i → f i = true) (hf : ∀ i, f i = true → CanTo ar G i) (hc : ∀ i t j, (i, t, j) ∈ ar → f j = true → f i = true) (i : Nat) : f i = true ↔ CanTo ar G i :=
  ⟨hf i, CanTo.least (S := fun i => f i = true) hG hc⟩

/-- How many of the first N are told. -/
def cntT (f : Nat → Bool) (N : Nat) : Nat := ((List.range N).filter f).length

theorem cntT_le (f : Nat → Bool) (N : Nat) : cntT f N ≤ N := by
  unfold cntT
  have := List.length_filter_le f (List.range N)
  rwa [List.length_range] at this

theorem cntT_succ (f : Nat → Bool) (N : Nat) : cntT f (N + 1) = cntT f N + (if f N then 1 else 0) := by
  unfold cntT
  rw [List.range_succ, List.filter_append, List.length_append]
  cases h : f N <;> simp [h]

def updT (f : Nat → Bool) (y : Nat) : Nat → Bool := fun t => f t || y == t

theorem updT_at (f : Nat → Bool) (y : Nat) : updT f y y = true := by simp [updT]
theorem updT_old {f : Nat → Bool} {y t : Nat} (h : f t = true) : updT f y t = true := by simp [updT, h]
theorem updT_ne (f : Nat → Bool) {y t : Nat} (h : y ≠ t) : updT f y t = f t := by simp [updT, h]
theorem updT_of {f : Nat → Bool} {y t : Nat} (h : updT f y t = true) : f t = true ∨ t = y := by
  by_cases e : y = t
  · exact .inr e.symm
  · rw [updT_ne f e] at h; exact .inl h

theorem cntT_upd {f : Nat → Bool} {y : Nat} (hy : f y = false) : ∀ N, cntT (updT f y) N = cntT f N + (if y < N then 1 else 0) := by
  intro N
  induction N with
  | zero => simp [cntT]
  | succ N ih =>
    rw [cntT_succ, cntT_succ, ih]
    by_cases e : y = N
    · subst e
      rw [updT_at, hy]
      simp
    · rw [updT_ne f e]
      by_cases h : y < N
      · have : y < N + 1 := by omega
        simp [h, this]; omega
      · have : ¬ y < N + 1 := by omega
        simp [h, this]

theorem cntT_all {f : Nat → Bool} : ∀ N, cntT f N = N ↔ ∀ i, i < N → f i = true := by
  intro N
  induction N with
  | zero => simp [cntT]
  | succ N ih =>
    rw [cntT_succ]
    have hle := cntT_le f N
    constructor
    · intro h i hi
      cases hN : f N
      · rw [hN] at h; simp at h; omega
      · rw [hN] at h
        have h1 : cntT f N = N := by simp at h; omega
        by_cases e : i = N
        · rw [e]; exact hN
        · exact ih.1 h1 i (by omega)
    · intro h
      rw [ih.2 fun i hi => h i (by omega), h N (by omega)]
      simp

theorem cntT_zero (N : Nat) : cntT (fun _ => false) N = 0 := by
  induction N with
  | zero => rfl
  | succ N ih => rw [cntT_succ, ih]; rfl

/-- Where two tell the same of each, both tell of all or neither does. -/
theorem allT_canTo {ar : List (Nat × Nat × Nat)} {G : Nat → Prop} {f g : Nat → Bool} {N : Nat} (hf : ∀ i, f i = true ↔ CanTo ar G i) (hg : ∀ i, g i = true ↔ CanTo ar G i) : (cntT f N = N) ↔ ∀ i, i < N → g i = true := by
  rw [cntT_all]
  exact ⟨fun h i hi => (hg i).2 ((hf i).1 (h i hi)), fun h i hi => (hf i).2 ((hg i).1 (h i hi))⟩

/-- What the program's search backwards keeps: those that are met (come), of which the first k are done with; f tells which are met. -/
structure BackSt (ar : List (Nat × Nat × Nat)) (G : Nat → Prop) (N k : Nat) (come : List Nat) (f : Nat → Bool) : Prop where
  lt : ∀ x ∈ come, x < N
  iff : ∀ i, f i = true ↔ i ∈ come
  cnt : come.length = cntT f N
  good : ∀ i, G i → f i = true
  can : ∀ i, f i = true → CanTo ar G i
  done : ∀ x ∈ come.take k, ∀ i t, (i, t, x) ∈ ar → f i = true

theorem BackSt.meet {ar : List (Nat × Nat × Nat)} {G : Nat → Prop} {N k : Nat} {come : List Nat} {f : Nat → Bool} (h : BackSt ar G N k come f) {i t x : Nat} (hx : x ∈ come) (ha : (i, t, x) ∈ ar) (hi : i < N) (hf : f i = false) (hk : k ≤ come.length) : BackSt ar G N k (come ++ [i]) (updT f i) := by
  refine ⟨fun y hy => ?_, fun y => ?_, ?_, fun y hy => updT_old (h.good y hy), fun y hy => ?_, fun y hy j s hj => ?_⟩
  · rcases List.mem_append.1 hy with h1 | h1
    · exact h.lt y h1
    · rw [List.mem_singleton.1 h1]; exact hi
  · rw [List.mem_append, List.mem_singleton, ← h.iff y]
    exact ⟨fun e => updT_of e, fun e => by rcases e with e | e; exact updT_old e; rw [e]; exact updT_at f i⟩
  · rw [List.length_append, List.length_singleton, cntT_upd hf N, if_pos hi, h.cnt]
  · rcases updT_of hy with e | e
    · exact h.can y e
    · rw [e]; exact .step ha (h.can x ((h.iff x).2 hx))
  · rw [List.take_append_of_le_length hk] at hy
    exact updT_old (h.done y hy j s hj)

theorem BackSt.next {ar : List (Nat × Nat × Nat)} {G : Nat → Prop} {N k x : Nat} {come : List Nat} {f : Nat → Bool} (h : BackSt ar G N k come f) (hx : come[k]? = some x) (hd : ∀ i t, (i, t, x) ∈ ar → f i = true) : BackSt ar G N (k + 1) come f := by
  refine ⟨h.lt, h.iff, h.cnt, h.good, h.can, fun y hy i t hi => ?_⟩
  rw [List.take_add_one, hx] at hy
  rcases List.mem_append.1 hy with h1 | h1
  · exact h.done y h1 i t hi
  · simp at h1; rw [h1] at hi; exact hd i t hi

/-- When all are done with, those met are just those that can come there. -/
theorem BackSt.fin {ar : List (Nat × Nat × Nat)} {G : Nat → Prop} {N k : Nat} {come : List Nat} {f : Nat → Bool} (h : BackSt ar G N k come f) (hk : come.length ≤ k) (i : Nat) : f i = true ↔ CanTo ar G i := by
  refine canTo_iff h.good h.can (fun i t j ha hj => ?_) i
  exact h.done j (by rw [List.take_of_length_le hk]; exact (h.iff j).1 hj) i t ha
end Go.Proofs.Ytedbihlpggficaa


/- What both Covers answer, for every number of places and every two lists: whether each number of the first is at least that of the second, and true, where both are good marks, else false and false; nothing that was there is written. -/
namespace Go.Proofs.Ytedbihlpggficaa
open Go.RowKit
set_option maxRecDepth 10000

theorem _root_.Go.RowKit.Below.drewN {B : Nat} {a w : World} (h : Below B a w) (q : Nat) : Below B a (w.drewN q) := ⟨h.os, h.tape, h.output, h.size, h.block⟩

def getF (xs : List Int) : Nat → Int := fun i => xs.getD i 0

theorem getF_of {xs : List Int} {k : Nat} {x : Int} (h : Hid (xs[k]? = some x)) : getF xs k = x := by simp [getF, h.out]

/-- Each number of the list is in 0..50. -/
def Small (f : Nat → Int) : Prop := ∀ i, 0 ≤ f i ∧ f i ≤ 50

theorem good_parts {p : Int} {xs : List Int} (h : goodB p xs = true) : Small (getF xs) ∧ xs.length ≤ 16 ∧ 1 ≤ xs.length ∧ (xs.length : Int) = p := by
  simp only [goodB, Bool.and_eq_true, decide_eq_true_eq] at h
  obtain ⟨⟨h1, h2⟩, h3⟩ := h
  refine ⟨fun i => ?_, (inB_le h1 h2).2, (inB_le h1 h2).1, h2⟩
  unfold getF
  by_cases hi : i < xs.length
  · rw [List.getD_eq_getElem?_getD, List.getElem?_eq_getElem hi]
    have := List.all_eq_true.mp h3 xs[i] (List.getElem_mem hi)
    simp [inB] at this
    simpa using this
  · rw [List.getD_eq_getElem?_getD, List.getElem?_eq_none (by omega)]
    simp

theorem small_fOf {xs : List Int} (h : Small (getF xs)) (n : Nat) : Small (fOf xs n) := by
  intro i
  unfold fOf
  split
  · exact h i
  · omega

/-- The first k numbers of f are at least those of g. -/
def CovUpto (f g : Nat → Int) (k : Nat) : Prop := ∀ i, i < k → g i ≤ f i
def covF (f g : Nat → Int) (n : Nat) : Bool := (List.range n).all fun i => decide (g i ≤ f i)

theorem covF_yes {f g : Nat → Int} {n : Nat} (h : CovUpto f g n) : covF f g n = true := by
  simp only [covF, List.all_eq_true, List.mem_range, decide_eq_true_eq]; exact h

theorem covF_iff {f g : Nat → Int} {n : Nat} : covF f g n = true ↔ CovUpto f g n := by
  simp [covF, CovUpto]

theorem covF_no {f g : Nat → Int} {n k : Nat} (hk : k < n) (h : f k < g k) : covF f g n = false := by
  rw [Bool.eq_false_iff]
  intro hc
  have := covF_iff.mp hc k hk
  omega

theorem CovUpto.step {f g : Nat → Int} {k : Nat} (h : CovUpto f g k) (hk : g k ≤ f k) : CovUpto f g (k + 1) := by
  intro i hi
  by_cases e : i = k
  · subst e; exact hk
  · exact h i (by omega)

theorem covF_pad (xs ys : List Int) (n : Nat) (hn : n ≤ 16) : covF (fOf xs n) (fOf ys n) 16 = covF (getF xs) (getF ys) n := by
  rw [Bool.eq_iff_iff, covF_iff, covF_iff]
  constructor
  · intro h i hi
    have := h i (by omega)
    unfold fOf at this
    rw [if_pos hi, if_pos hi] at this
    exact this
  · intro h i hi
    unfold fOf
    by_cases e : i < n
    · rw [if_pos e, if_pos e]; exact h i e
    · rw [if_neg e, if_neg e]; exact Int.le_refl 0

set_option maxHeartbeats 400000 in
theorem cov_any (f g : Nat → Int) (w : World) :
    Calls Try.prog 97 #[.agg (tokF f), .agg (tokF g)] w fun e w' => BoolEnd (covF f g 16) w e w' := by
  go_enter Try.func97, Try.ntmps97
  go_wp2
  go_loopw [6] (fun i wr => ∃ k : Nat, k ≤ 16 ∧ i = .int .i64 k ∧ CovUpto f g k ∧ ∃ q, wr = ((w.alloc (.cells (tokF f) 84)).alloc (.cells (tokF g) 84)).drewN q) (fun i _ => 16 - (intOf i).toNat)
  case atStart => exact ⟨0, Nat.zero_le _, rfl, fun i hi => absurd hi (by omega), 0, rfl⟩
  case round =>
    obtain ⟨k, hk, rfl, hu, q, rfl⟩ := hrel
    by_cases hlt : k < 16
    · have h1 := tokF_at f k hlt
      have h2 := tokF_at g k hlt
      have hi1 : ((k : Int)) < 16 := by omega
      by_cases he : f k < g k
      · have HC := hide (covF_no hlt he)
        obtain ⟨x, hx⟩ : ∃ x, Hid (f k = x) := ⟨_, rfl⟩
        obtain ⟨y, hy⟩ : ∃ y, Hid (g k = y) := ⟨_, rfl⟩
        rw [hx.out] at h1 he
        rw [hy.out] at h2 he
        clear hu
        go_wp2
        go_quiet (fail)
        go_wp2
        go_ret
        exact ⟨ret_bool HC.out.symm, by first | exact (below_two w _ _).drewN _ | exact ((below_two w _ _).drewN _).drewN _⟩
      · have HU := hu.step (by omega)
        obtain ⟨x, hx⟩ : ∃ x, Hid (f k = x) := ⟨_, rfl⟩
        obtain ⟨y, hy⟩ : ∃ y, Hid (g k = y) := ⟨_, rfl⟩
        rw [hx.out] at h1 he
        rw [hy.out] at h2 he
        have HUU := hide HU
        clear hu HU
        go_wp2
        go_quiet (fail)
        go_wp2
        go_roundw
        case rel => exact ⟨k + 1, by omega, by go_num, HUU.out, _, rfl⟩
        case measure => simp [intOf]; omega
    · have hk' : k = 16 := by omega
      subst hk'
      have HC := hide (covF_yes hu)
      clear hu
      go_wp2
      go_ret
      exact ⟨ret_bool HC.out.symm, by first | exact (below_two w _ _).drewN _ | exact ((below_two w _ _).drewN _).drewN _⟩

set_option maxHeartbeats 400000 in
theorem covS_any (a b : Option Addr) (n ca cb : Nat) (xs ys : List Int) (w : World) (ha : Row w a n xs) (hb : Row w b n ys) (hn : n ≤ 16) :
    Calls Try.prog 90 #[.slice a n ca, .slice b n cb] w fun e w' => e = .returned (.bool (covF (getF xs) (getF ys) n)) ∧ w' = w := by
  go_enter Try.func90, Try.ntmps90
  go_wp2
  go_loop [9] (fun i => ∃ k : Nat, k ≤ n ∧ i = .int .i64 k ∧ CovUpto (getF xs) (getF ys) k) (fun i => n - (intOf i).toNat)
  case atStart => exact ⟨0, Nat.zero_le _, rfl, fun i hi => absurd hi (by omega)⟩
  case round =>
    obtain ⟨k, hk, rfl, hu⟩ := hrel
    by_cases hlt : k < n
    · obtain ⟨b1, o1, x, rfl, hl1, hc1, H1⟩ := ha.at hlt
      obtain ⟨b2, o2, y, rfl, hl2, hc2, H2⟩ := hb.at hlt
      have hi1 : ((k : Int)) < ((n : Int)) := by omega
      by_cases he : x < y
      · have HC := hide (covF_no (f := getF xs) (g := getF ys) hlt (by rw [getF_of H1, getF_of H2]; exact he))
        clear ha hb hu H1 H2
        go_wp2
        go_ret
        exact ⟨ret_bool HC.out.symm, rfl⟩
      · have HU := hide (hu.step (by rw [getF_of H1, getF_of H2]; omega))
        clear ha hb hu H1 H2
        go_wp2
        go_round
        case rel => exact ⟨k + 1, by omega, by go_num, HU.out⟩
        case measure => simp [intOf]; omega
    · have hk' : k = n := by omega
      subst hk'
      have HC := hide (covF_yes hu)
      clear hu
      go_wp2
      go_ret
      exact ⟨ret_bool HC.out.symm, rfl⟩

def covB (p : Int) (xs ys : List Int) : Bool := goodB p xs && goodB p ys && covF (getF xs) (getF ys) xs.length

def CovEnd (p : Int) (xs ys : List Int) (w : World) (e : Ending) (w' : World) : Prop :=
  e = .returned (.tuple #[.bool (covB p xs ys), .bool (goodB p xs && goodB p ys)]) ∧ Below w.heap.size w w'

theorem covEnd_no {p : Int} {xs ys : List Int} {w w' : World} (h : (goodB p xs && goodB p ys) = false) (hb : Below w.heap.size w w') : CovEnd p xs ys w (.returned (.tuple #[.bool false, .bool false])) w' := by
  refine ⟨?_, hb⟩; unfold covB; rw [h]; rfl

theorem covEnd_yes {p : Int} {xs ys : List Int} {w w' : World} {c : Bool} (h : (goodB p xs && goodB p ys) = true) (hc : covF (getF xs) (getF ys) xs.length = c) (hb : Below w.heap.size w w') : CovEnd p xs ys w (.returned (.tuple #[.bool c, .bool true])) w' := by
  refine ⟨?_, hb⟩; unfold covB; rw [h, hc]; simp

theorem two_len {p : Int} {xs ys : List Int} (h : (goodB p xs && goodB p ys) = true) : xs.length = ys.length ∧ xs.length ≤ 16 := by
  rw [Bool.and_eq_true] at h
  have h1 := good_parts h.1
  have h2 := good_parts h.2
  omega

end Go.Proofs.Ytedbihlpggficaa


/- What both CompareMarks answer, for every number of places and every two lists: -1, 0 or 1 by the first number in which they part, and true, where both are good marks, else 0 and false; nothing that was there is written. -/
namespace Go.Proofs.Ytedbihlpggficaa
open Go.RowKit

theorem Try.size5 : (Try.prog.info? 5).map (·.size) = some 1 := by kernel_rfl

def eqF (f g : Nat → Int) (l : List Nat) : Bool := l.all fun i => f i == g i

theorem run_part_tok (f : Nat → Int) (i : Nat) (hi : i < 16) (w : World) : (part 5 (tokF f) i).run Try.prog w = .ok (.int .u8 (f i)) w := by
  have h := tokF_at f i hi
  simp [part, isAgg, run_underlying Try.underlying5, h, go_sem]

theorem run_equalIn_tok (d e : Nat) (hd : d = e + 1) (f g : Nat → Int) (w : World) : (Op.equalIn (d + 1) 84 (.agg (tokF f)) (.agg (tokF g))).run Try.prog w = .ok (eqF f g (List.range 16)) w := by
  obtain ⟨i, hi, hs⟩ := Option.map_eq_some_iff.1 Try.size5
  simp only [Op.equalIn, Sem.run_bind, run_underlying Try.underlying84, Result.andThen_ok, sizeOf, typeInfo, run_program, hi, hs, Sem.run_pure, Std.Legacy.Range.forIn_eq_forIn_range', Nat.mul_one]
  have key : ∀ l : List Nat, (∀ i ∈ l, i < 16) → ∀ w : World, (Sem.run Try.prog (forIn l ((none : Option Bool), ()) fun i __s => do
      let a ← part 5 (tokF f) i
      let b ← part 5 (tokF g) i
      let r ← Op.equalIn d 5 a b
      if (!r) = true then pure (ForInStep.done (some false, ())) else pure (ForInStep.yield (none, ()))) w) = .ok (if eqF f g l = true then (none, ()) else (some false, ())) w := by
    intro l
    induction l with
    | nil => intro _ w; simp [eqF]
    | cons j l ih =>
      intro hl w
      have hj := hl j (by simp)
      have e1 : (Op.equalIn d 5 (.int .u8 (f j)) (.int .u8 (g j))).run Try.prog w = .ok (f j == g j) w := by
        rw [hd]; exact run_equalIn_int w e 5 .u8 .u8 _ _ Try.underlying5
      simp only [List.forIn_cons, Sem.run_bind, run_part_tok f j hj, run_part_tok g j hj, Result.andThen_ok, e1, Sem.run_ite]
      by_cases hq : f j = g j
      · have hq2 : (f j == g j) = true := by simp [hq]
        simp only [hq2, Bool.not_true, Bool.false_eq_true, if_false, Sem.run_pure, Result.andThen_ok]
        rw [ih (fun i h => hl i (by simp [h])) w]
        simp [eqF, hq2]
      · have hq2 : (f j == g j) = false := by simp [hq]
        simp only [hq2, Bool.not_false, if_true, Sem.run_pure, Result.andThen_ok]
        simp [eqF, hq2]
  have k16 := key (List.range' 0 16) (by intro i hi; simp [List.mem_range'] at hi; omega) w
  rw [show [:16].size = 16 from rfl, k16, show List.range 16 = List.range' 0 16 from rfl]
  cases eqF f g (List.range' 0 16) <;> rfl

def cmpN (f g : Nat → Int) : Nat → Nat → Int
  | 0, _ => 0
  | n + 1, k => if f k < g k then -1 else if g k < f k then 1 else cmpN f g n (k + 1)

def EqUpto (f g : Nat → Int) (k : Nat) : Prop := ∀ i, i < k → f i = g i

theorem EqUpto.step {f g : Nat → Int} {k : Nat} (h : EqUpto f g k) (h1 : ¬ f k < g k) (h2 : ¬ g k < f k) : EqUpto f g (k + 1) := by
  intro i hi
  by_cases e : i = k
  · subst e; omega
  · exact h i (by omega)

theorem cmpN_skip {f g : Nat → Int} {n k : Nat} (h : EqUpto f g k) (hk : k ≤ n) : cmpN f g n 0 = cmpN f g (n - k) k := by
  induction k with
  | zero => rfl
  | succ k ih =>
    rw [ih (fun i hi => h i (by omega)) (by omega), show n - k = (n - (k + 1)) + 1 by omega]
    have := h k (by omega)
    simp only [cmpN]
    rw [if_neg (by omega), if_neg (by omega)]

theorem cmpN_lt {f g : Nat → Int} {n k : Nat} (h : EqUpto f g k) (hk : k < n) (hl : f k < g k) : cmpN f g n 0 = -1 := by
  rw [cmpN_skip h (by omega), show n - k = (n - (k + 1)) + 1 by omega]
  simp only [cmpN]; rw [if_pos hl]

theorem cmpN_gt {f g : Nat → Int} {n k : Nat} (h : EqUpto f g k) (hk : k < n) (hl : g k < f k) : cmpN f g n 0 = 1 := by
  rw [cmpN_skip h (by omega), show n - k = (n - (k + 1)) + 1 by omega]
  simp only [cmpN]; rw [if_neg (by omega), if_pos hl]

theorem cmpN_eq {f g : Nat → Int} {n : Nat} (h : EqUpto f g n) : cmpN f g n 0 = 0 := by
  rw [cmpN_skip h (Nat.le_refl _), Nat.sub_self]; rfl

theorem eqF_upto {f g : Nat → Int} {n : Nat} : eqF f g (List.range n) = true ↔ EqUpto f g n := by
  simp [eqF, EqUpto]

theorem cmpN_zero {f g : Nat → Int} (j k : Nat) (h : ∀ i, k ≤ i → f i = g i) : cmpN f g j k = 0 := by
  induction j generalizing k with
  | zero => rfl
  | succ j ih =>
    have := h k (Nat.le_refl _)
    simp only [cmpN]
    rw [if_neg (by omega), if_neg (by omega)]
    exact ih (k + 1) (fun i hi => h i (by omega))

theorem cmpN_pad (xs ys : List Int) (n j m k : Nat) (hm : k + m = n) : cmpN (fOf xs n) (fOf ys n) (m + j) k = cmpN (getF xs) (getF ys) m k := by
  induction m generalizing k with
  | zero =>
    rw [Nat.zero_add]
    exact cmpN_zero j k (fun i hi => by unfold fOf; rw [if_neg (by omega), if_neg (by omega)])
  | succ m ih =>
    rw [show m + 1 + j = (m + j) + 1 by omega]
    simp only [cmpN]
    rw [ih (k + 1) (by omega)]
    have e1 : fOf xs n k = getF xs k := by unfold fOf getF; rw [if_pos (by omega)]
    have e2 : fOf ys n k = getF ys k := by unfold fOf getF; rw [if_pos (by omega)]
    rw [e1, e2]

/-- A call that answers an int and writes into nothing that was there. -/
def IntEnd (n : Int) (w : World) (e : Ending) (w' : World) : Prop := e = .returned (.int .i64 n) ∧ Below w.heap.size w w'

theorem ret_intC {a b : Int} (h : a = b) : Ending.returned (.int .i64 a) = .returned (.int .i64 b) := by rw [h]

set_option maxHeartbeats 1000000 in
theorem cmp_any (f g : Nat → Int) (w : World) :
    Calls Try.prog 95 #[.agg (tokF f), .agg (tokF g)] w fun e w' => IntEnd (cmpN f g 16 0) w e w' := by
  have hgd : ∀ w, (eqGuard .eql 84 (.tmp 6) (.tmp 7) (.agg (tokF f)) (.agg (tokF g))).run Try.prog w = .ok () w := fun w => run_eqGuard_agg w _ _ _ _ _ _ (by kernel_rfl)
  have hg0 := heap_alloc2_old w (.cells (tokF f) 84) (.cells (tokF g) 84)
  have hg1 := heap_alloc2_new w (.cells (tokF f) 84) (.cells (tokF g) 84)
  by_cases hq : EqUpto f g 16
  · have heq : ∀ w, (Op.equalIn 10000 84 (.agg (tokF f)) (.agg (tokF g))).run Try.prog w = .ok true w := fun w => by
      rw [← eqF_upto.mpr hq]; exact run_equalIn_tok 9999 9998 rfl f g w
    have HC := hide (cmpN_eq hq)
    clear hq
    go_enter Try.func95, Try.ntmps95
    go_wp2_with (first
      | refine wpList_load_row rfl 84 (.tmp 2) rfl _ rfl 84 (tokF f) (0, 0) _ hg0 Try.underlying84 rfl (by rw [tokF_size]; exact Try.size84) ?_
      | refine wpList_load_row rfl 84 (.tmp 3) rfl _ rfl 84 (tokF g) (0, 0) _ hg1 Try.underlying84 rfl (by rw [tokF_size]; exact Try.size84) ?_)
    go_ret
    exact ⟨ret_intC HC.out.symm, below_two w _ _⟩
  · have heq : ∀ w, (Op.equalIn 10000 84 (.agg (tokF f)) (.agg (tokF g))).run Try.prog w = .ok false w := fun w => by
      rw [← (Bool.eq_false_iff.mpr (fun h => hq (eqF_upto.mp h)) : eqF f g (List.range 16) = false)]; exact run_equalIn_tok 9999 9998 rfl f g w
    have HQ := hide hq
    clear hq
    go_enter Try.func95, Try.ntmps95
    go_wp2_with (first
      | refine wpList_load_row rfl 84 (.tmp 2) rfl _ rfl 84 (tokF f) (0, 0) _ hg0 Try.underlying84 rfl (by rw [tokF_size]; exact Try.size84) ?_
      | refine wpList_load_row rfl 84 (.tmp 3) rfl _ rfl 84 (tokF g) (0, 0) _ hg1 Try.underlying84 rfl (by rw [tokF_size]; exact Try.size84) ?_)
    clear heq hgd hg0 hg1
    go_loopw [9] (fun i wr => ∃ k : Nat, k ≤ 16 ∧ i = .int .i64 k ∧ EqUpto f g k ∧ ∃ q, wr = ((w.alloc (.cells (tokF f) 84)).alloc (.cells (tokF g) 84)).drewN q) (fun i _ => 16 - (intOf i).toNat)
    case atStart => exact ⟨0, Nat.zero_le _, rfl, fun i hi => absurd hi (by omega), 0, rfl⟩
    case round =>
      obtain ⟨k, hk, rfl, hu, q, rfl⟩ := hrel
      by_cases hlt : k < 16
      · have h1 := tokF_at f k hlt
        have h2 := tokF_at g k hlt
        have hi1 : ((k : Int)) < 16 := by omega
        by_cases he : f k < g k
        · have HC := hide (cmpN_lt hu hlt he)
          obtain ⟨x, hx⟩ : ∃ x, Hid (f k = x) := ⟨_, rfl⟩
          obtain ⟨y, hy⟩ : ∃ y, Hid (g k = y) := ⟨_, rfl⟩
          rw [hx.out] at h1 he
          rw [hy.out] at h2 he
          clear hu
          go_wp2
          go_quiet (fail)
          go_wp2
          go_ret
          exact ⟨ret_intC HC.out.symm, by first | exact (below_two w _ _).drewN _ | exact ((below_two w _ _).drewN _).drewN _⟩
        · by_cases he2 : g k < f k
          · have HC := hide (cmpN_gt hu hlt he2)
            obtain ⟨x, hx⟩ : ∃ x, Hid (f k = x) := ⟨_, rfl⟩
            obtain ⟨y, hy⟩ : ∃ y, Hid (g k = y) := ⟨_, rfl⟩
            rw [hx.out] at h1 he he2
            rw [hy.out] at h2 he he2
            clear hu
            go_wp2
            go_quiet (fail)
            go_wp2
            go_quiet (fail)
            go_wp2
            go_ret
            exact ⟨ret_intC HC.out.symm, by first | exact (below_two w _ _).drewN _ | exact ((below_two w _ _).drewN _).drewN _ | exact (((below_two w _ _).drewN _).drewN _).drewN _⟩
          · have HU := hide (hu.step he he2)
            obtain ⟨x, hx⟩ : ∃ x, Hid (f k = x) := ⟨_, rfl⟩
            obtain ⟨y, hy⟩ : ∃ y, Hid (g k = y) := ⟨_, rfl⟩
            rw [hx.out] at h1 he he2
            rw [hy.out] at h2 he he2
            clear hu
            go_wp2
            go_quiet (fail)
            go_wp2
            go_quiet (fail)
            go_wp2
            go_roundw
            case rel => exact ⟨k + 1, by omega, by go_num, HU.out, by first | exact ⟨_, rfl⟩ | exact ⟨_, drewN_two _ _ _⟩⟩
            case measure => simp [intOf]; omega
      · have hk' : k = 16 := by omega
        subst hk'
        exact absurd hu HQ.out

set_option maxHeartbeats 400000 in
theorem cmpS_any (a b : Option Addr) (n ca cb : Nat) (xs ys : List Int) (w : World) (ha : Row w a n xs) (hb : Row w b n ys) (hn : n ≤ 16) :
    Calls Try.prog 113 #[.slice a n ca, .slice b n cb] w fun e w' => e = .returned (.int .i64 (cmpN (getF xs) (getF ys) n 0)) ∧ ∃ q, w' = w.drewN q := by
  go_enter Try.func113, Try.ntmps113
  go_wp2
  go_loopw [8] (fun i wr => ∃ k : Nat, k ≤ n ∧ i = .int .i64 k ∧ EqUpto (getF xs) (getF ys) k ∧ ∃ q, wr = w.drewN q) (fun i _ => n - (intOf i).toNat)
  case atStart => exact ⟨0, Nat.zero_le _, rfl, fun i hi => absurd hi (by omega), 0, rfl⟩
  case round =>
    obtain ⟨k, hk, rfl, hu, q, rfl⟩ := hrel
    by_cases hlt : k < n
    · obtain ⟨b1, o1, x, rfl, hl1, hc1, H1⟩ := ha.at hlt
      obtain ⟨b2, o2, y, rfl, hl2, hc2, H2⟩ := hb.at hlt
      have hi1 : ((k : Int)) < ((n : Int)) := by omega
      have e1 := hide (getF_of H1)
      have e2 := hide (getF_of H2)
      clear ha hb H1 H2
      by_cases he : x < y
      · have HC := hide (cmpN_lt (n := n) hu hlt (by rw [e1.out, e2.out]; exact he))
        clear hu
        go_wp2
        go_quiet (fail)
        go_wp2
        go_ret
        exact ⟨ret_intC HC.out.symm, by first | exact ⟨_, rfl⟩ | exact ⟨_, drewN_two _ _ _⟩⟩
      · by_cases he2 : y < x
        · have HC := hide (cmpN_gt (n := n) hu hlt (by rw [e1.out, e2.out]; exact he2))
          clear hu
          go_wp2
          go_quiet (fail)
          go_wp2
          go_quiet (fail)
          go_wp2
          go_ret
          exact ⟨ret_intC HC.out.symm, by first | exact ⟨_, rfl⟩ | exact ⟨_, drewN_two _ _ _⟩ | (rw [drewN_two, drewN_two]; exact ⟨_, rfl⟩)⟩
        · have HU := hide (hu.step (by rw [e1.out, e2.out]; exact he) (by rw [e1.out, e2.out]; exact he2))
          clear hu
          go_wp2
          go_quiet (fail)
          go_wp2
          go_quiet (fail)
          go_wp2
          go_roundw
          case rel => exact ⟨k + 1, by omega, by go_num, HU.out, by first | exact ⟨_, rfl⟩ | exact ⟨_, drewN_two _ _ _⟩ | (rw [drewN_two, drewN_two]; exact ⟨_, rfl⟩)⟩
          case measure => simp [intOf]; omega
    · have hk' : k = n := by omega
      subst hk'
      have HC := hide (cmpN_eq hu)
      clear hu
      go_wp2
      go_ret
      exact ⟨ret_intC HC.out.symm, _, rfl⟩

def cmpB (p : Int) (xs ys : List Int) : Int := if goodB p xs && goodB p ys then cmpN (getF xs) (getF ys) xs.length 0 else 0

def CmpEnd (p : Int) (xs ys : List Int) (w : World) (e : Ending) (w' : World) : Prop :=
  e = .returned (.tuple #[.int .i64 (cmpB p xs ys), .bool (goodB p xs && goodB p ys)]) ∧ Below w.heap.size w w'

theorem cmpEnd_no {p : Int} {xs ys : List Int} {w w' : World} (h : (goodB p xs && goodB p ys) = false) (hb : Below w.heap.size w w') : CmpEnd p xs ys w (.returned (.tuple #[.int .i64 0, .bool false])) w' := by
  refine ⟨?_, hb⟩; unfold cmpB; rw [h]; rfl

theorem cmpEnd_yes {p : Int} {xs ys : List Int} {w w' : World} {c : Int} (h : (goodB p xs && goodB p ys) = true) (hc : cmpN (getF xs) (getF ys) xs.length 0 = c) (hb : Below w.heap.size w w') : CmpEnd p xs ys w (.returned (.tuple #[.int .i64 c, .bool true])) w' := by
  refine ⟨?_, hb⟩; unfold cmpB; rw [h, hc]; rfl

end Go.Proofs.Ytedbihlpggficaa
