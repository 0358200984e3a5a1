/- Contracts that the proof stands on, one behind the other. -/
import Derived.Test.YtakenobplljkbabP4
import Derived.Laws.StructEq
import Derived.Maps.OwnSet
import Derived.Deep.RegionHeld3
import Derived.Deep.MidRow
/- The program's Fire, for every net, mark and number in memory. -/
namespace Go.Proofs.Ytakenobplljkbab
open Go.RowKit
set_option maxRecDepth 10000

/-- A list in a block of its own and a bool; nothing that was there is written. -/
def LEnd (g : Bool) (r : List Int) (w : World) (e : Ending) (w' : World) : Prop :=
  ∃ a b n, e = .returned (.tuple #[.slice a n n, .bool g]) ∧ Blk w' a b n r ∧ w.heap.size ≤ b ∧ Below w.heap.size w w'

theorem lend_no {p : Int} {n : Nat} {L : List (List Int)} {ys : List Int} {t : Int} {w w' : World} (h : fireOk p n L ys t = false) (hb : Below w.heap.size w w') : LEnd (fireOk p n L ys t) (fireR p n L ys t) w (.returned (.tuple #[.slice none 0 0, .bool false])) w' := by
  refine ⟨none, w.heap.size, 0, by rw [h], ⟨?_, .inl rfl⟩, Nat.le_refl _, hb⟩
  unfold fireR; rw [h]; rfl

theorem lend_yes {p : Int} {n : Nat} {L : List (List Int)} {ys : List Int} {t : Int} {w w' : World} {b m : Nat} (h : fireOk p n L ys t = true) (hl : (firedL L ys t).length = m) (hh : w'.heap[b]? = some (.cells (cellsOf (firedL L ys t)) 3 (0, 0))) (hB : w.heap.size ≤ b) (hb : Below w.heap.size w w') :
    LEnd (fireOk p n L ys t) (fireR p n L ys t) w (.returned (.tuple #[.slice (some ⟨b, 0, none⟩) m m, .bool true])) w' := by
  have hr : fireR p n L ys t = firedL L ys t := by unfold fireR; rw [h]; rfl
  exact ⟨_, b, m, by rw [h], ⟨by rw [hr]; exact hl, .inr ⟨rfl, by rw [hr]; exact hh⟩⟩, hB, hb⟩

theorem fireL_len (x0 x1 x2 ys : List Int) : (fireL x0 x1 x2 ys).length = ys.length := by unfold fireL; rw [updL_len, updL_len, updL_len]

/-- By sets as by lists. -/
theorem fire_eq {p : Int} {n nm : Nat} {L : List (List Int)} {ys : List Int} {t : Int} (hnet : netOk p n L = true) (hg : goodB p ys = true) (hl : ys.length = nm) :
    fireB n L (fOf ys nm) t = fireOk p n L ys t ∧ (fireOk p n L ys t = true → listF (partF (maskL (inOf L t)) (maskL (outOf L t)) (maskL (resOf L t)) (fOf ys nm) 16) nm = firedL L ys t) := by
  obtain ⟨hp, hlp, hy⟩ := goodB_parts hg
  have hnm : (nm : Int) = p := by omega
  unfold fireB fireOk
  rw [hnet, hg]
  by_cases g2 : inB t 0 ((n : Int) - 1) = true
  rotate_left
  · have g2' : inB t 0 ((n : Int) - 1) = false := by simpa using g2
    rw [g2']; exact ⟨rfl, fun h => by simp at h⟩
  have ht : 0 ≤ t ∧ t ≤ (n : Int) - 1 := by simpa [inB] using g2
  have htri := tri_rise (triOkOf hnet (show t.toNat < n by omega))
  obtain ⟨h0, h1, h2⟩ := htri
  have e1 := can_sub (x0 := inOf L t) hp hnm hy h0
  rw [g2, e1]
  by_cases hc : canB (inOf L t) ys = true
  · have e2 := good_cap (x0 := inOf L t) (x1 := outOf L t) (x2 := resOf L t) hp hnm hl hy h0 h1 h2 hc
    refine ⟨?_, fun _ => list_fire (x0 := inOf L t) (x1 := outOf L t) (x2 := resOf L t) hp hnm hl h0 h1 h2⟩
    unfold firedL; rw [e2, hc]; rfl
  · have hc' : canB (inOf L t) ys = false := by simpa using hc
    rw [hc']; exact ⟨rfl, fun h => by simp at h⟩

theorem partF_small {s0 s1 s2 : Nat} {f : Nat → Int} (hf : ∀ i, 0 ≤ f i ∧ f i ≤ 50) (hen : ∀ i, s0.testBit i = true → 0 < f i) (k i : Nat) : 0 ≤ partF s0 s1 s2 f k i ∧ partF s0 s1 s2 f k i ≤ 255 := by
  have h1 := hf i
  have h2 := hen i
  unfold partF stepF
  split
  · cases h3 : s0.testBit i
    · simp only [Bool.false_eq_true, if_false]
      (repeat' split) <;> omega
    · have := h2 h3
      simp only [if_true]
      (repeat' split) <;> omega
  · omega

end Go.Proofs.Ytakenobplljkbab


/- What the second half of a law over a net and a list keeps in mind: the net and the list handed in, the list answered, each in blocks of their own, and the specification's answer, while memory grows and blocks are marked. -/
namespace Go.Proofs.Ytakenobplljkbab
open Go.RowKit

theorem PartF.lists {w : World} {B hi n : Nat} {T : TypeId} {L : List (List Int)} (h : PartF w B hi (3 * n) T (fun j => L.getD j [])) (hl : L.length = 3 * n) (hs : sizeN n L ≤ 1048576) : Lists w (some ⟨B, 0, none⟩) (3 * n) L := by
  obtain ⟨C, f, h1, h2, h3, h4⟩ := h
  refine ⟨hl, .inr ⟨B, 0, rfl, (Array.getElem?_eq_some_iff.mp h1).1, fun j hj => ?_⟩⟩
  obtain ⟨e1, e2, e3, e4⟩ := h3 j hj
  refine ⟨_, _, _, by rw [cell_of_row w B (0 + j) C T _ h1, Nat.zero_add]; exact e1, ?_, e4.row⟩
  have := len_le L j
  show (L.getD j []).length ≤ maxLen
  unfold sizeN at hs; unfold maxLen; omega

theorem cntF_size (L : List (List Int)) (k : Nat) (hk : k ≤ L.length) : cntF (fun j => L.getD j []) k = sizeL (L.take k) := by
  induction k with
  | zero => simp [cntF, sizeL]
  | succ k ih => simp only [cntF]; rw [ih (by omega), sizeL_take_succ L k (by omega)]

theorem cntF_all {L : List (List Int)} {n : Nat} (hl : L.length = 3 * n) : cntF (fun j => L.getD j []) (3 * n) = sizeL L := by
  rw [cntF_size L (3 * n) (by omega), List.take_of_length_le (by omega)]

/-- w: the world ahead of the law; u: behind the specification's answer; v: now. -/
structure Sn (w u v : World) (p : Int) (a : Option Addr) (n c B hi bx : Nat) (M : Nat → List Int) (ax : Option Addr) (b1 nm : Nat) (ly : List Int) (ag : Option Addr) (bg ng : Nat) (lg : List Int) : Prop where
  old : Below w.heap.size w v
  mid : Below u.heap.size u v
  par : v.heap[w.heap.size]? = some (.cells #[.int .i64 p, .slice a n c] 24 (0, 0))
  x0 : v.heap[bx]? = some (.cells #[.int .i64 p, .slice (some ⟨B, 0, none⟩) n n] 31 (0, 0))
  net : PartF v B hi (3 * n) 87 M
  x1 : Blk v ax b1 nm ly
  g : Blk v ag bg ng lg

variable {w u v v' : World} {p : Int} {a : Option Addr} {n c B hi bx : Nat} {M : Nat → List Int} {ax : Option Addr} {b1 nm : Nat} {ly : List Int} {ag : Option Addr} {bg ng : Nat} {lg l : List Int}

theorem Sn.grow (h : Sn w u v p a n c B hi bx M ax b1 nm ly ag bg ng lg) (hb : Below v.heap.size v v') : Sn w u v' p a n c B hi bx M ax b1 nm ly ag bg ng lg :=
  ⟨h.old.trans (hb.mono h.old.size), h.mid.trans (hb.mono h.mid.size), keep h.par hb, keep h.x0 hb, h.net.grow hb, h.x1.grow' hb, h.g.grow' hb⟩

theorem Sn.markN {M' : Nat → List Int} (h : Sn w u v p a n c B hi bx M ax b1 nm ly ag bg ng lg) (hm : PartF v' B hi (3 * n) 87 M') (hk : Keeps (B + 1) hi v v') (h1 : w.heap.size ≤ B) (h2 : u.heap.size ≤ B) (hx : hi ≤ bx) (hy : hi ≤ b1) (hg : hi ≤ bg) :
    Sn w u v' p a n c B hi bx M' ax b1 nm ly ag bg ng lg :=
  ⟨h.old.trans (hk.bel.mono (by omega)), h.mid.trans (hk.bel.mono (by omega)), (hk.bel.block _ (by omega)).trans h.par, (hk.top bx hx (row_lt h.x0)).trans h.x0, hm, h.x1.keeps hk hy, h.g.keeps hk hg⟩

theorem PartF.only {w w' : World} {B hi n b : Nat} {T : TypeId} {M : Nat → List Int} (h : PartF w B hi n T M) (ho : Only b w w') (hb : hi ≤ b) (hB : B ≠ b) : PartF w' B hi n T M := by
  obtain ⟨C, f, h1, h2, h3, h4⟩ := h
  refine ⟨C, f, (ho.block B hB).trans h1, h2, fun j hj => ?_, h4⟩
  obtain ⟨e1, e2, e3, e4⟩ := h3 j hj
  exact ⟨e1, e2, e3, e4.only ho (by omega)⟩

theorem Sn.markX (h : Sn w u v p a n c B hi bx M ax b1 nm ly ag bg ng lg) (hm : Blk v' ax b1 nm l) (ho : Only b1 v v') (h1 : w.heap.size < b1) (h2 : u.heap.size ≤ b1) (hb : hi ≤ b1) (hB : B ≠ b1) (hx : bx ≠ b1) (hg : bg ≠ b1) :
    Sn w u v' p a n c B hi bx M ax b1 nm l ag bg ng lg :=
  ⟨h.old.trans (ho.below (by omega)), h.mid.trans (ho.below h2), (ho.block _ (by omega)).trans h.par, (ho.block _ hx).trans h.x0, h.net.only ho hb hB, hm, h.g.only ho hg⟩

theorem Sn.markG (h : Sn w u v p a n c B hi bx M ax b1 nm ly ag bg ng lg) (hm : Blk v' ag bg ng l) (ho : Only bg v v') (h1 : w.heap.size < bg) (h2 : u.heap.size ≤ bg) (hb : hi ≤ bg) (hB : B ≠ bg) (hx : bx ≠ bg) (hy : b1 ≠ bg) :
    Sn w u v' p a n c B hi bx M ax b1 nm ly ag bg ng l :=
  ⟨h.old.trans (ho.below (by omega)), h.mid.trans (ho.below h2), (ho.block _ (by omega)).trans h.par, (ho.block _ hx).trans h.x0, h.net.only ho hb hB, h.x1.only ho hy, hm⟩

theorem blk_new' (w : World) (xs : List Int) (n : Nat) (hl : xs.length = n) : Blk (w.alloc (.cells (cellsOf xs) 3)) (some ⟨w.heap.size, 0, none⟩) w.heap.size n xs :=
  ⟨hl, .inr ⟨rfl, heap_alloc_new _ _⟩⟩
end Go.Proofs.Ytakenobplljkbab


/- Lists that an append has made: a block of its own, in which there may be more room; what markIntS writes into one; and the state of a law over a net whose answer is such a list. -/
namespace Go.Proofs.Ytakenobplljkbab
open Go.RowKit

/-- A slice of n numbers from the head of the block b, in which there may be more room; or an empty one. -/
def Ob (w : World) (a : Option Addr) (b n : Nat) (xs : List Int) : Prop :=
  xs.length = n ∧ (n = 0 ∨ (a = some ⟨b, 0, none⟩ ∧ ∃ cur, w.heap[b]? = some (.cells cur 3 (0, 0)) ∧ n ≤ cur.size ∧ ∀ i, i < n → cur[i]? = some (.int .i64 (xs.getD i 0))))

theorem Ob.row {w : World} {a : Option Addr} {b n : Nat} {xs : List Int} (h : Ob w a b n xs) : Row w a n xs := by
  rcases h.2 with h0 | ⟨e, cur, h1, h2, h3⟩
  · exact ⟨h.1, .inl h0⟩
  · refine ⟨h.1, .inr ⟨b, 0, e, (Array.getElem?_eq_some_iff.mp h1).1, fun i hi => ?_⟩⟩
    rw [cell_of_row w b (0 + i) _ _ _ h1, Nat.zero_add]
    exact h3 i hi

theorem Ob.grow {w w' : World} {a : Option Addr} {b n : Nat} {xs : List Int} (h : Ob w a b n xs) (hb : Below w.heap.size w w') : Ob w' a b n xs := by
  refine ⟨h.1, ?_⟩
  rcases h.2 with h0 | ⟨e, cur, h1, h2⟩
  · exact .inl h0
  · exact .inr ⟨e, cur, (hb.block b (Array.getElem?_eq_some_iff.mp h1).1).trans h1, h2⟩

theorem Ob.only {w w' : World} {a : Option Addr} {b c n : Nat} {xs : List Int} (h : Ob w a b n xs) (ho : Only c w w') (hB : b ≠ c) : Ob w' a b n xs := by
  refine ⟨h.1, ?_⟩
  rcases h.2 with h0 | ⟨e, cur, h1, h2⟩
  · exact .inl h0
  · exact .inr ⟨e, cur, (ho.block b hB).trans h1, h2⟩

theorem Ob.keeps {w w' : World} {a : Option Addr} {b n lo hi : Nat} {xs : List Int} (h : Ob w a b n xs) (hk : Keeps lo hi w w') (hb : hi ≤ b) : Ob w' a b n xs := by
  refine ⟨h.1, ?_⟩
  rcases h.2 with h0 | ⟨e, cur, h1, h2⟩
  · exact .inl h0
  · exact .inr ⟨e, cur, (hk.top b hb (Array.getElem?_eq_some_iff.mp h1).1).trans h1, h2⟩

/-- The first k of n numbers are there. -/
def FillR (xs : List Int) (n k : Nat) (cs : Array Value) : Prop := n ≤ cs.size ∧ ∀ i, i < k → cs[i]? = some (.int .i64 (xs.getD i 0))

theorem set_fillR {xs : List Int} {n k : Nat} {cs : Array Value} {x : Int} (h : FillR xs n k cs) (hk : k < n) (hx : xs.getD k 0 = x) : FillR xs n (k + 1) (cs.setIfInBounds k (.int .i64 x)) := by
  obtain ⟨h1, h2⟩ := h
  refine ⟨by simp; exact h1, fun i hi => ?_⟩
  rw [Array.getElem?_setIfInBounds]
  by_cases e : k = i
  · subst e; rw [if_pos rfl, if_pos (by omega), hx]
  · rw [if_neg e]; exact h2 i (by omega)

set_option maxHeartbeats 400000 in
theorem markO_any (a : Option Addr) (b n c k0 : Nat) (xs : List Int) (w : World) (h : Ob w a b n xs) (hn : n ≤ 1048576) (hk0 : k0 ≤ 4194304) :
    Calls Try.prog 21 #[.slice a n c, .int .i64 (k0 : Int)] w fun e w' => e = .returned (.int .i64 ((k0 + n : Nat) : Int)) ∧ Ob w' a b n (seqL k0 n) ∧ Only b w w' := by
  have HB := hide h
  clear h
  go_enter Try.func21, Try.ntmps21
  go_wp2
  go_loopw [1, 5] (fun t i wr => ∃ k : Nat, k ≤ n ∧ i = .int .i64 k ∧ t = .int .i64 ((k0 + k : Nat) : Int) ∧ Only b w wr ∧ (n = 0 ∨ (a = some ⟨b, 0, none⟩ ∧ ∃ cs, FillR (seqL k0 n) n k cs ∧ wr.heap[b]? = some (.cells cs 3 (0, 0))))) (fun _ i _ => n - (intOf i).toNat)
  case atStart =>
    refine ⟨0, Nat.zero_le _, rfl, rfl, Only.refl _ _, ?_⟩
    rcases HB.out.2 with h0 | ⟨e, hh⟩
    · exact .inl h0
    · obtain ⟨cur, q1, q2, _⟩ := hh
      exact .inr ⟨e, cur, ⟨q2, fun i hi => absurd hi (by omega)⟩, q1⟩
  case round =>
    obtain ⟨k, hk, rfl, rfl, ho, hd⟩ := hrel
    by_cases hlt : k < n
    · obtain ⟨rfl, cs, hf, hh⟩ : a = some ⟨b, 0, none⟩ ∧ ∃ cs, FillR (seqL k0 n) n k cs ∧ wr.heap[b]? = some (.cells cs 3 (0, 0)) := by
        rcases hd with h0 | h
        · omega
        · exact h
      have HF := hide (set_fillR hf hlt (seqL_at k0 n k hlt))
      have hsz := hf.1
      obtain ⟨v0, hv0⟩ : ∃ v0, wr.cell? ⟨b, k, none⟩ = some v0 := ⟨_, by rw [cell_of_row wr b k cs _ _ hh]; exact Array.getElem?_eq_getElem (by omega)⟩
      have hfr := frozen_of_row wr b k cs _ hh
      have HH := hide (heap_setCell_same wr b k cs _ (.int .i64 ((k0 + k : Nat) : Int)) hh)
      have HO := hide (ho.setCell k (.int .i64 ((k0 + k : Nat) : Int)))
      have hb1 : ((k0 + k : Nat) : Int) ≤ 5242880 := by omega
      have hb0 : (0 : Int) ≤ ((k0 + k : Nat) : Int) := by omega
      obtain ⟨t, ht⟩ : ∃ t : Nat, Hid (k0 + k = t) := ⟨_, rfl⟩
      rw [ht.out] at hb1 hb0 HF HH HO ⊢
      clear hd ho hf hh HB
      go_wp2
      go_roundw
      case rel => exact ⟨k + 1, by omega, by go_num, by rw [show k0 + (k + 1) = t + 1 by have := ht.out; omega]; go_num, HO.out, by first | exact .inr ⟨rfl, _, HF.out, HH.out⟩ | exact .inr ⟨trivial, _, HF.out, HH.out⟩⟩
      case measure => simp [intOf]; omega
    · have hk' : k = n := by omega
      subst hk'
      have HD := hide hd
      have HO := hide ho
      clear hd ho
      go_wp2
      go_ret
      refine ⟨rfl, ⟨seqL_len _ _, ?_⟩, HO.out⟩
      rcases HD.out with h0 | ⟨e, cs, hf, hh⟩
      · exact .inl h0
      · exact .inr ⟨e, cs, hh, hf.1, hf.2⟩


/-- w: the world ahead of the law; u: behind the specification's answer; v: now. -/
structure So (w u v : World) (p : Int) (a : Option Addr) (n c B hi bx : Nat) (M : Nat → List Int) (ax : Option Addr) (b1 nm : Nat) (ly : List Int) (ag : Option Addr) (bg ng : Nat) (lg : List Int) : Prop where
  old : Below w.heap.size w v
  mid : Below u.heap.size u v
  par : v.heap[w.heap.size]? = some (.cells #[.int .i64 p, .slice a n c] 24 (0, 0))
  x0 : v.heap[bx]? = some (.cells #[.int .i64 p, .slice (some ⟨B, 0, none⟩) n n] 31 (0, 0))
  net : PartF v B hi (3 * n) 87 M
  x1 : Blk v ax b1 nm ly
  g : Ob v ag bg ng lg

variable {w u v v' : World} {p : Int} {a : Option Addr} {n c B hi bx : Nat} {M : Nat → List Int} {ax : Option Addr} {b1 nm : Nat} {ly : List Int} {ag : Option Addr} {bg ng : Nat} {lg l : List Int}

theorem So.grow (h : So w u v p a n c B hi bx M ax b1 nm ly ag bg ng lg) (hb : Below v.heap.size v v') : So w u v' p a n c B hi bx M ax b1 nm ly ag bg ng lg :=
  ⟨h.old.trans (hb.mono h.old.size), h.mid.trans (hb.mono h.mid.size), keep h.par hb, keep h.x0 hb, h.net.grow hb, h.x1.grow' hb, h.g.grow hb⟩

theorem So.markN {M' : Nat → List Int} (h : So w u v p a n c B hi bx M ax b1 nm ly ag bg ng lg) (hm : PartF v' B hi (3 * n) 87 M') (hk : Keeps (B + 1) hi v v') (h1 : w.heap.size ≤ B) (h2 : u.heap.size ≤ B) (hx : hi ≤ bx) (hy : hi ≤ b1) (hg : hi ≤ bg) :
    So w u v' p a n c B hi bx M' ax b1 nm ly ag bg ng lg :=
  ⟨h.old.trans (hk.bel.mono (by omega)), h.mid.trans (hk.bel.mono (by omega)), (hk.bel.block _ (by omega)).trans h.par, (hk.top bx hx (row_lt h.x0)).trans h.x0, hm, h.x1.keeps hk hy, h.g.keeps hk hg⟩

theorem So.markX (h : So w u v p a n c B hi bx M ax b1 nm ly ag bg ng lg) (hm : Blk v' ax b1 nm l) (ho : Only b1 v v') (h1 : w.heap.size < b1) (h2 : u.heap.size ≤ b1) (hb : hi ≤ b1) (hB : B ≠ b1) (hx : bx ≠ b1) (hg : bg ≠ b1) :
    So w u v' p a n c B hi bx M ax b1 nm l ag bg ng lg :=
  ⟨h.old.trans (ho.below (by omega)), h.mid.trans (ho.below h2), (ho.block _ (by omega)).trans h.par, (ho.block _ hx).trans h.x0, h.net.only ho hb hB, hm, h.g.only ho hg⟩

theorem So.markG (h : So w u v p a n c B hi bx M ax b1 nm ly ag bg ng lg) (hm : Ob v' ag bg ng l) (ho : Only bg v v') (h1 : w.heap.size < bg) (h2 : u.heap.size ≤ bg) (hb : hi ≤ bg) (hB : B ≠ bg) (hx : bx ≠ bg) (hy : b1 ≠ bg) :
    So w u v' p a n c B hi bx M ax b1 nm ly ag bg ng l :=
  ⟨h.old.trans (ho.below (by omega)), h.mid.trans (ho.below h2), (ho.block _ (by omega)).trans h.par, (ho.block _ hx).trans h.x0, h.net.only ho hb hB, h.x1.only ho hy, hm⟩
end Go.Proofs.Ytakenobplljkbab


/- The numbers of the transitions of a net that are as asked: the specification's TakersOf and GiversOf. -/
namespace Go.Proofs.Ytakenobplljkbab
open Go.RowKit

/-- The numbers below k that are as asked. -/
def numsL (f : Nat → Bool) (k : Nat) : List Int := ((List.range k).filter f).map fun (i : Nat) => (i : Int)

theorem numsL_yes {f : Nat → Bool} {k : Nat} (h : f k = true) : numsL f (k + 1) = numsL f k ++ [(k : Int)] := by simp [numsL, List.range_succ, List.filter_append, h]
theorem numsL_no {f : Nat → Bool} {k : Nat} (h : f k = false) : numsL f (k + 1) = numsL f k := by simp [numsL, List.range_succ, List.filter_append, h]
theorem numsL_len (f : Nat → Bool) (k : Nat) : (numsL f k).length ≤ k := by
  unfold numsL
  rw [List.length_map]
  have := List.length_filter_le f (List.range k)
  rwa [List.length_range] at this

/-- A list that an append has made, handed back alone. -/
def NumsEnd (f : Nat → Bool) (n : Nat) (w : World) (e : Ending) (w' : World) : Prop :=
  ∃ v m, e = .returned v ∧ w'.ownsRow w.heap.size 3 1 v m ((numsL f n).map (Value.int .i64)) ∧ Below w.heap.size w w'

theorem own_below {B : Nat} {w w' : World} {v : Value} {n : Nat} {l : List Value} (hown : w.ownsRow B 3 1 v n l) (hg : w.grownBy w' v.ownBlock) {a : World} {C : Nat} (h : Below C a w) (hC : C ≤ w.heap.size) (hB : C ≤ B) : Below C a w' := by
  refine h.grown hg hC fun k hk => ?_
  rcases hown.2 with ⟨rfl, _⟩ | ⟨g, cap, cur, rfl, hb, _⟩
  · simp [Value.ownBlock] at hk
  · simp [Value.ownBlock] at hk; omega

theorem one_cell (w : World) (v : Value) : ∀ j u, ([v] : List Value)[j]? = some u → (w.alloc (.cells #[v] 3)).cell? ((⟨w.heap.size, 0, none⟩ : Addr).add j) = some u := by
  intro j u hu
  match j, hu with
  | 0, hu =>
    simp at hu; subst hu
    rw [Addr.add_mid]
    exact cell_of_row _ w.heap.size 0 #[v] _ _ (heap_alloc_new _ _)
  | (q + 1), hu => simp at hu

end Go.Proofs.Ytakenobplljkbab


/- The search through all marks as a plain function on lists: what the program and the specification both follow. -/
namespace Go.Proofs.Ytakenobplljkbab
open Go.RowKit

/-- The marks that are met so far, and the arcs (from, by, to). -/
structure Sea where
  ms : List (List Int)
  ar : List (Nat × Nat × Nat)

def canT (L : List (List Int)) (m : List Int) (t : Nat) : Bool := canB (L.getD (3 * t) []) m
def fireT (L : List (List Int)) (m : List Int) (t : Nat) : List Int := firedL L m (t : Int)

/-- A mark is met. -/
def meetS (B : Nat) (m : List Int) (k t : Nat) (s : Sea) : Except Nat Sea :=
  if m ∈ s.ms then .ok ⟨s.ms, s.ar ++ [(k, t, s.ms.idxOf m)]⟩
  else if s.ms.length = B then .error 2 else .ok ⟨s.ms ++ [m], s.ar ++ [(k, t, s.ms.length)]⟩

def oneS (p : Int) (L : List (List Int)) (B : Nat) (m : List Int) (k t : Nat) (s : Sea) : Except Nat Sea :=
  if goodB p (fireT L m t) then meetS B (fireT L m t) k t s else .error 3

/-- All of some transitions out of one mark. -/
def rowS (p : Int) (L : List (List Int)) (B : Nat) (m : List Int) (k : Nat) : List Nat → Sea → Except Nat Sea
  | [], s => .ok s
  | t :: r, s => if canT L m t then (match oneS p L B m k t s with | .ok s' => rowS p L B m k r s' | .error c => .error c) else rowS p L B m k r s

/-- All marks from number k on. -/
def seaS (p : Int) (n : Nat) (L : List (List Int)) (B : Nat) : Nat → Nat → Sea → Except Nat Sea
  | 0, _, s => .ok s
  | f + 1, k, s => if k < s.ms.length then (match rowS p L B (s.ms.getD k []) k (List.range n) s with | .ok s' => seaS p n L B f (k + 1) s' | .error c => .error c) else .ok s

def sea0 (ys : List Int) : Sea := ⟨[ys], []⟩

def searchS (p : Int) (n : Nat) (L : List (List Int)) (B : Nat) (ys : List Int) : Except Nat Sea := seaS p n L B B 0 (sea0 ys)

def codeS : Except Nat Sea → Nat
  | .ok _ => 1
  | .error c => c

def endS : Except Nat Sea → Sea
  | .ok s => s
  | .error _ => ⟨[], []⟩

/-- What holds of marks and arcs on the way. -/
structure SeaOk (p : Int) (n B : Nat) (s : Sea) : Prop where
  pos : 0 < s.ms.length
  le : s.ms.length ≤ B
  good : ∀ m ∈ s.ms, goodB p m = true
  nodup : s.ms.Nodup
  arc : ∀ a ∈ s.ar, a.1 < s.ms.length ∧ a.2.1 < n ∧ a.2.2 < s.ms.length

theorem SeaOk.start {p : Int} {n B : Nat} {ys : List Int} (hB : 1 ≤ B) (hy : goodB p ys = true) : SeaOk p n B (sea0 ys) :=
  ⟨by simp [sea0], by simpa [sea0] using hB, by simp [sea0, hy], by simp [sea0], by simp [sea0]⟩

theorem SeaOk.goodAt {p : Int} {n B : Nat} {s : Sea} (h : SeaOk p n B s) {k : Nat} (hk : k < s.ms.length) : goodB p (s.ms.getD k []) = true := by
  refine h.good _ ?_
  rw [List.getD_eq_getElem?_getD, List.getElem?_eq_getElem hk]
  exact List.getElem_mem hk

/-- One arc more, to a mark that is there. -/
theorem SeaOk.old {p : Int} {n B : Nat} {s : Sea} (h : SeaOk p n B s) {k t j : Nat} (hk : k < s.ms.length) (ht : t < n) (hj : j < s.ms.length) : SeaOk p n B ⟨s.ms, s.ar ++ [(k, t, j)]⟩ :=
  ⟨h.pos, h.le, h.good, h.nodup, fun a ha => by
    rcases List.mem_append.1 ha with ha | ha
    · exact h.arc a ha
    · simp at ha; subst ha; exact ⟨hk, ht, hj⟩⟩

/-- .. to a new one. -/
theorem SeaOk.new {p : Int} {n B : Nat} {s : Sea} (h : SeaOk p n B s) {m : List Int} {k t : Nat} (hm : goodB p m = true) (hn : m ∉ s.ms) (hB : s.ms.length ≠ B) (hk : k < s.ms.length) (ht : t < n) : SeaOk p n B ⟨s.ms ++ [m], s.ar ++ [(k, t, s.ms.length)]⟩ :=
  ⟨by simp, by have := h.le; simp; omega, fun x hx => by
    rcases List.mem_append.1 hx with hx | hx
    · exact h.good x hx
    · simp at hx; subst hx; exact hm, by
    rw [List.nodup_append]
    exact ⟨h.nodup, by simp, fun a ha b hb e => hn (by simp at hb; subst hb; subst e; exact ha)⟩, fun a ha => by
    rcases List.mem_append.1 ha with ha | ha
    · have := h.arc a ha; simp; omega
    · simp at ha; subst ha; simp; omega⟩

theorem meetS_ok {p : Int} {n B : Nat} {s s' : Sea} {m : List Int} {k t : Nat} (h : SeaOk p n B s) (hm : goodB p m = true) (hk : k < s.ms.length) (ht : t < n) (he : meetS B m k t s = .ok s') :
    SeaOk p n B s' ∧ s'.ar.length = s.ar.length + 1 ∧ s.ms <+: s'.ms := by
  unfold meetS at he
  by_cases h1 : m ∈ s.ms
  · rw [if_pos h1] at he
    cases he
    exact ⟨h.old hk ht (List.idxOf_lt_length_of_mem h1), by simp, List.prefix_refl _⟩
  · rw [if_neg h1] at he
    by_cases h2 : s.ms.length = B
    · rw [if_pos h2] at he; cases he
    · rw [if_neg h2] at he
      cases he
      exact ⟨h.new hm h1 h2 hk ht, by simp, List.prefix_append _ _⟩

theorem oneS_ok {p : Int} {n B : Nat} {L : List (List Int)} {s s' : Sea} {m : List Int} {k t : Nat} (h : SeaOk p n B s) (hk : k < s.ms.length) (ht : t < n) (he : oneS p L B m k t s = .ok s') :
    SeaOk p n B s' ∧ s'.ar.length = s.ar.length + 1 ∧ s.ms <+: s'.ms := by
  unfold oneS at he
  by_cases h1 : goodB p (fireT L m t) = true
  · rw [if_pos h1] at he; exact meetS_ok h h1 hk ht he
  · rw [if_neg h1] at he; cases he

theorem oneS_err {p : Int} {B : Nat} {L : List (List Int)} {s : Sea} {m : List Int} {k t c : Nat} (he : oneS p L B m k t s = .error c) : c = 2 ∨ c = 3 := by
  unfold oneS meetS at he
  repeat' split at he
  all_goals first | (cases he; omega) | (cases he)

theorem prefix_getD {α : Type} {l l' : List α} (h : l <+: l') {k : Nat} (hk : k < l.length) (d : α) : l'.getD k d = l.getD k d := by
  obtain ⟨r, rfl⟩ := h
  rw [List.getD_eq_getElem?_getD, List.getD_eq_getElem?_getD, List.getElem?_append_left hk]

theorem rowS_ok {p : Int} {n B : Nat} {L : List (List Int)} {m : List Int} {k : Nat} : ∀ {ts : List Nat} {s s' : Sea}, SeaOk p n B s → k < s.ms.length → (∀ t ∈ ts, t < n) → rowS p L B m k ts s = .ok s' →
    SeaOk p n B s' ∧ s'.ar.length ≤ s.ar.length + ts.length ∧ s.ms <+: s'.ms
  | [], s, s', h, _, _, he => by
    unfold rowS at he; cases he; exact ⟨h, by simp, List.prefix_refl _⟩
  | t :: r, s, s', h, hk, ht, he => by
    unfold rowS at he
    by_cases hc : canT L m t = true
    · rw [if_pos hc] at he
      cases h1 : oneS p L B m k t s with
      | error c => rw [h1] at he; cases he
      | ok s1 =>
        rw [h1] at he
        obtain ⟨a1, a2, a3⟩ := oneS_ok h hk (ht t (by simp)) h1
        obtain ⟨b1, b2, b3⟩ := rowS_ok a1 (Nat.lt_of_lt_of_le hk a3.length_le) (fun x hx => ht x (by simp [hx])) he
        exact ⟨b1, by simp; omega, a3.trans b3⟩
    · rw [if_neg hc] at he
      obtain ⟨b1, b2, b3⟩ := rowS_ok h hk (fun x hx => ht x (by simp [hx])) he
      exact ⟨b1, by simp; omega, b3⟩

theorem rowS_err {p : Int} {B : Nat} {L : List (List Int)} {m : List Int} {k : Nat} : ∀ {ts : List Nat} {s : Sea} {c : Nat}, rowS p L B m k ts s = .error c → c = 2 ∨ c = 3
  | [], s, c, he => by unfold rowS at he; cases he
  | t :: r, s, c, he => by
    unfold rowS at he
    split at he
    · split at he
      · exact rowS_err he
      · rename_i h1; cases he; exact oneS_err h1
    · exact rowS_err he

/-- The transitions that are not enabled may be left out. -/
theorem rowS_filter {p : Int} {B : Nat} {L : List (List Int)} {m : List Int} {k : Nat} : ∀ (ts : List Nat) (s : Sea), rowS p L B m k (ts.filter (canT L m)) s = rowS p L B m k ts s
  | [], s => rfl
  | t :: r, s => by
    by_cases hc : canT L m t = true
    · rw [List.filter_cons_of_pos hc]
      unfold rowS
      rw [if_pos hc, if_pos hc]
      split
      · exact rowS_filter r _
      · rfl
    · rw [List.filter_cons_of_neg (by simpa using hc), rowS_filter r s]
      conv => rhs; unfold rowS
      rw [if_neg hc]

theorem seaS_ok {p : Int} {n B : Nat} {L : List (List Int)} : ∀ {f k : Nat} {s s' : Sea}, SeaOk p n B s → seaS p n L B f k s = .ok s' → SeaOk p n B s' ∧ s'.ar.length ≤ s.ar.length + f * n ∧ s.ms <+: s'.ms
  | 0, k, s, s', h, he => by
    unfold seaS at he; cases he; exact ⟨h, by simp, List.prefix_refl _⟩
  | f + 1, k, s, s', h, he => by
    unfold seaS at he
    by_cases hk : k < s.ms.length
    · rw [if_pos hk] at he
      cases h1 : rowS p L B (s.ms.getD k []) k (List.range n) s with
      | error c => rw [h1] at he; cases he
      | ok s1 =>
        rw [h1] at he
        obtain ⟨a1, a2, a3⟩ := rowS_ok h hk (fun t ht => by simpa using ht) h1
        obtain ⟨b1, b2, b3⟩ := seaS_ok a1 he
        refine ⟨b1, ?_, a3.trans b3⟩
        rw [List.length_range] at a2
        rw [Nat.add_mul, Nat.one_mul]
        omega
    · rw [if_neg hk] at he; cases he; exact ⟨h, by simp, List.prefix_refl _⟩

theorem seaS_err {p : Int} {n B : Nat} {L : List (List Int)} : ∀ {f k : Nat} {s : Sea} {c : Nat}, seaS p n L B f k s = .error c → c = 2 ∨ c = 3
  | 0, k, s, c, he => by unfold seaS at he; cases he
  | f + 1, k, s, c, he => by
    unfold seaS at he
    split at he
    · split at he
      · exact seaS_err he
      · rename_i h1; cases he; exact rowS_err h1
    · cases he

/-- One mark more. -/
theorem seaS_go {p : Int} {n B : Nat} {L : List (List Int)} {k : Nat} {s : Sea} (h : SeaOk p n B s) (hk : k < s.ms.length) :
    seaS p n L B (B - k) k s = (match rowS p L B (s.ms.getD k []) k (List.range n) s with | .ok s' => seaS p n L B (B - (k + 1)) (k + 1) s' | .error c => .error c) := by
  have hle := h.le
  rw [show B - k = (B - (k + 1)) + 1 by omega]
  conv => lhs; unfold seaS
  rw [if_pos hk]

theorem seaS_done {p : Int} {n B : Nat} {L : List (List Int)} {k : Nat} {s : Sea} (hk : ¬ k < s.ms.length) : seaS p n L B (B - k) k s = .ok s := by
  cases B - k with
  | zero => rfl
  | succ f => unfold seaS; rw [if_neg hk]

theorem seaS_row {p : Int} {n B : Nat} {L : List (List Int)} {k : Nat} {s s' : Sea} {R : Except Nat Sea} (h : SeaOk p n B s) (hk : k < s.ms.length) (hR : seaS p n L B (B - k) k s = R) (h1 : rowS p L B (s.ms.getD k []) k (List.range n) s = .ok s') :
    seaS p n L B (B - (k + 1)) (k + 1) s' = R := by
  rw [seaS_go h hk, h1] at hR; exact hR

theorem seaS_stop {p : Int} {n B : Nat} {L : List (List Int)} {k c : Nat} {s : Sea} {R : Except Nat Sea} (h : SeaOk p n B s) (hk : k < s.ms.length) (hR : seaS p n L B (B - k) k s = R) (h1 : rowS p L B (s.ms.getD k []) k (List.range n) s = .error c) :
    R = .error c := by
  rw [seaS_go h hk, h1] at hR; exact hR.symm

/-- The transitions from t on. -/
def fromT (t n : Nat) : List Nat := List.range' t (n - t)

theorem fromT_all (n : Nat) : List.range n = fromT 0 n := by unfold fromT; rw [List.range_eq_range', Nat.sub_zero]
theorem fromT_cons {t n : Nat} (h : t < n) : fromT t n = t :: fromT (t + 1) n := by
  unfold fromT
  rw [show n - t = (n - (t + 1)) + 1 by omega, List.range'_succ]
theorem fromT_nil {t n : Nat} (h : ¬ t < n) : fromT t n = [] := by
  unfold fromT; rw [show n - t = 0 by omega]; rfl

theorem rowS_yes {p : Int} {n B : Nat} {L : List (List Int)} {m : List Int} {k t : Nat} {s s' : Sea} {R : Except Nat Sea} (ht : t < n) (hR : rowS p L B m k (fromT t n) s = R) (hc : canT L m t = true) (h1 : oneS p L B m k t s = .ok s') : rowS p L B m k (fromT (t + 1) n) s' = R := by
  rw [fromT_cons ht] at hR; unfold rowS at hR; rw [if_pos hc, h1] at hR; exact hR
theorem rowS_bad {p : Int} {n B : Nat} {L : List (List Int)} {m : List Int} {k t c : Nat} {s : Sea} {R : Except Nat Sea} (ht : t < n) (hR : rowS p L B m k (fromT t n) s = R) (hc : canT L m t = true) (h1 : oneS p L B m k t s = .error c) : R = .error c := by
  rw [fromT_cons ht] at hR; unfold rowS at hR; rw [if_pos hc, h1] at hR; exact hR.symm
theorem rowS_no {p : Int} {n B : Nat} {L : List (List Int)} {m : List Int} {k t : Nat} {s : Sea} {R : Except Nat Sea} (ht : t < n) (hR : rowS p L B m k (fromT t n) s = R) (hc : canT L m t = false) : rowS p L B m k (fromT (t + 1) n) s = R := by
  rw [fromT_cons ht] at hR; unfold rowS at hR; rw [if_neg (by simp [hc])] at hR; exact hR
theorem rowS_end {p : Int} {n B : Nat} {L : List (List Int)} {m : List Int} {k t : Nat} {s : Sea} {R : Except Nat Sea} (ht : ¬ t < n) (hR : rowS p L B m k (fromT t n) s = R) : R = .ok s := by
  rw [fromT_nil ht] at hR; exact hR.symm
end Go.Proofs.Ytakenobplljkbab


/- What both Covers answer, for every number of places and every two lists: whether each number of the first is at least that of the second, and true, where both are good marks, else false and false; nothing that was there is written. -/
namespace Go.Proofs.Ytakenobplljkbab
open Go.RowKit
set_option maxRecDepth 10000

theorem _root_.Go.RowKit.Below.drewN {B : Nat} {a w : World} (h : Below B a w) (q : Nat) : Below B a (w.drewN q) := ⟨h.os, h.tape, h.output, h.size, h.block⟩

def getF (xs : List Int) : Nat → Int := fun i => xs.getD i 0

theorem getF_of {xs : List Int} {k : Nat} {x : Int} (h : Hid (xs[k]? = some x)) : getF xs k = x := by simp [getF, h.out]

/-- Each number of the list is in 0..50. -/
def Small50 (f : Nat → Int) : Prop := ∀ i, 0 ≤ f i ∧ f i ≤ 50

theorem good_parts {p : Int} {xs : List Int} (h : goodB p xs = true) : Small50 (getF xs) ∧ xs.length ≤ 16 ∧ 1 ≤ xs.length ∧ (xs.length : Int) = p := by
  simp only [goodB, Bool.and_eq_true, decide_eq_true_eq] at h
  obtain ⟨⟨h1, h2⟩, h3⟩ := h
  refine ⟨fun i => ?_, (inB_le h1 h2).2, (inB_le h1 h2).1, h2⟩
  unfold getF
  by_cases hi : i < xs.length
  · rw [List.getD_eq_getElem?_getD, List.getElem?_eq_getElem hi]
    have := List.all_eq_true.mp h3 xs[i] (List.getElem_mem hi)
    simp [inB] at this
    simpa using this
  · rw [List.getD_eq_getElem?_getD, List.getElem?_eq_none (by omega)]
    simp

theorem small_fOf {xs : List Int} (h : Small50 (getF xs)) (n : Nat) : Small50 (fOf xs n) := by
  intro i
  unfold fOf
  split
  · exact h i
  · omega

/-- The first k numbers of f are at least those of g. -/
def CovUpto (f g : Nat → Int) (k : Nat) : Prop := ∀ i, i < k → g i ≤ f i
def covF (f g : Nat → Int) (n : Nat) : Bool := (List.range n).all fun i => decide (g i ≤ f i)

theorem covF_yes {f g : Nat → Int} {n : Nat} (h : CovUpto f g n) : covF f g n = true := by
  simp only [covF, List.all_eq_true, List.mem_range, decide_eq_true_eq]; exact h

theorem covF_iff {f g : Nat → Int} {n : Nat} : covF f g n = true ↔ CovUpto f g n := by
  simp [covF, CovUpto]

theorem covF_no {f g : Nat → Int} {n k : Nat} (hk : k < n) (h : f k < g k) : covF f g n = false := by
  rw [Bool.eq_false_iff]
  intro hc
  have := covF_iff.mp hc k hk
  omega

theorem CovUpto.step {f g : Nat → Int} {k : Nat} (h : CovUpto f g k) (hk : g k ≤ f k) : CovUpto f g (k + 1) := by
  intro i hi
  by_cases e : i = k
  · subst e; exact hk
  · exact h i (by omega)

theorem covF_pad (xs ys : List Int) (n : Nat) (hn : n ≤ 16) : covF (fOf xs n) (fOf ys n) 16 = covF (getF xs) (getF ys) n := by
  rw [Bool.eq_iff_iff, covF_iff, covF_iff]
  constructor
  · intro h i hi
    have := h i (by omega)
    unfold fOf at this
    rw [if_pos hi, if_pos hi] at this
    exact this
  · intro h i hi
    unfold fOf
    by_cases e : i < n
    · rw [if_pos e, if_pos e]; exact h i e
    · rw [if_neg e, if_neg e]; exact Int.le_refl 0

def covB (p : Int) (xs ys : List Int) : Bool := goodB p xs && goodB p ys && covF (getF xs) (getF ys) xs.length

def CovEnd (p : Int) (xs ys : List Int) (w : World) (e : Ending) (w' : World) : Prop :=
  e = .returned (.tuple #[.bool (covB p xs ys), .bool (goodB p xs && goodB p ys)]) ∧ Below w.heap.size w w'

theorem covEnd_no {p : Int} {xs ys : List Int} {w w' : World} (h : (goodB p xs && goodB p ys) = false) (hb : Below w.heap.size w w') : CovEnd p xs ys w (.returned (.tuple #[.bool false, .bool false])) w' := by
  refine ⟨?_, hb⟩; unfold covB; rw [h]; rfl

theorem covEnd_yes {p : Int} {xs ys : List Int} {w w' : World} {c : Bool} (h : (goodB p xs && goodB p ys) = true) (hc : covF (getF xs) (getF ys) xs.length = c) (hb : Below w.heap.size w w') : CovEnd p xs ys w (.returned (.tuple #[.bool c, .bool true])) w' := by
  refine ⟨?_, hb⟩; unfold covB; rw [h, hc]; simp

theorem two_len {p : Int} {xs ys : List Int} (h : (goodB p xs && goodB p ys) = true) : xs.length = ys.length ∧ xs.length ≤ 16 := by
  rw [Bool.and_eq_true] at h
  have h1 := good_parts h.1
  have h2 := good_parts h.2
  omega

end Go.Proofs.Ytakenobplljkbab


/- What both CompareMarks answer, for every number of places and every two lists: -1, 0 or 1 by the first number in which they part, and true, where both are good marks, else 0 and false; nothing that was there is written. -/
namespace Go.Proofs.Ytakenobplljkbab
open Go.RowKit

theorem Try.size5 : (Try.prog.info? 5).map (·.size) = some 1 := by kernel_rfl

def eqF (f g : Nat → Int) (l : List Nat) : Bool := l.all fun i => f i == g i

theorem run_part_tok (f : Nat → Int) (i : Nat) (hi : i < 16) (w : World) : (part 5 (tokF f) i).run Try.prog w = .ok (.int .u8 (f i)) w := by
  have h := tokF_at f i hi
  simp [part, isAgg, run_underlying Try.underlying5, h, go_sem]

theorem run_equalIn_tok (d e : Nat) (hd : d = e + 1) (f g : Nat → Int) (w : World) : (Op.equalIn (d + 1) 76 (.agg (tokF f)) (.agg (tokF g))).run Try.prog w = .ok (eqF f g (List.range 16)) w := by
  obtain ⟨i, hi, hs⟩ := Option.map_eq_some_iff.1 Try.size5
  simp only [Op.equalIn, Sem.run_bind, run_underlying Try.underlying76, Result.andThen_ok, sizeOf, typeInfo, run_program, hi, hs, Sem.run_pure, Std.Legacy.Range.forIn_eq_forIn_range', Nat.mul_one]
  have key : ∀ l : List Nat, (∀ i ∈ l, i < 16) → ∀ w : World, (Sem.run Try.prog (forIn l ((none : Option Bool), ()) fun i __s => do
      let a ← part 5 (tokF f) i
      let b ← part 5 (tokF g) i
      let r ← Op.equalIn d 5 a b
      if (!r) = true then pure (ForInStep.done (some false, ())) else pure (ForInStep.yield (none, ()))) w) = .ok (if eqF f g l = true then (none, ()) else (some false, ())) w := by
    intro l
    induction l with
    | nil => intro _ w; simp [eqF]
    | cons j l ih =>
      intro hl w
      have hj := hl j (by simp)
      have e1 : (Op.equalIn d 5 (.int .u8 (f j)) (.int .u8 (g j))).run Try.prog w = .ok (f j == g j) w := by
        rw [hd]; exact run_equalIn_int w e 5 .u8 .u8 _ _ Try.underlying5
      simp only [List.forIn_cons, Sem.run_bind, run_part_tok f j hj, run_part_tok g j hj, Result.andThen_ok, e1, Sem.run_ite]
      by_cases hq : f j = g j
      · have hq2 : (f j == g j) = true := by simp [hq]
        simp only [hq2, Bool.not_true, Bool.false_eq_true, if_false, Sem.run_pure, Result.andThen_ok]
        rw [ih (fun i h => hl i (by simp [h])) w]
        simp [eqF, hq2]
      · have hq2 : (f j == g j) = false := by simp [hq]
        simp only [hq2, Bool.not_false, if_true, Sem.run_pure, Result.andThen_ok]
        simp [eqF, hq2]
  have k16 := key (List.range' 0 16) (by intro i hi; simp [List.mem_range'] at hi; omega) w
  rw [show [:16].size = 16 from rfl, k16, show List.range 16 = List.range' 0 16 from rfl]
  cases eqF f g (List.range' 0 16) <;> rfl

def cmpN (f g : Nat → Int) : Nat → Nat → Int
  | 0, _ => 0
  | n + 1, k => if f k < g k then -1 else if g k < f k then 1 else cmpN f g n (k + 1)

def EqUpto (f g : Nat → Int) (k : Nat) : Prop := ∀ i, i < k → f i = g i

theorem EqUpto.step {f g : Nat → Int} {k : Nat} (h : EqUpto f g k) (h1 : ¬ f k < g k) (h2 : ¬ g k < f k) : EqUpto f g (k + 1) := by
  intro i hi
  by_cases e : i = k
  · subst e; omega
  · exact h i (by omega)

theorem cmpN_skip {f g : Nat → Int} {n k : Nat} (h : EqUpto f g k) (hk : k ≤ n) : cmpN f g n 0 = cmpN f g (n - k) k := by
  induction k with
  | zero => rfl
  | succ k ih =>
    rw [ih (fun i hi => h i (by omega)) (by omega), show n - k = (n - (k + 1)) + 1 by omega]
    have := h k (by omega)
    simp only [cmpN]
    rw [if_neg (by omega), if_neg (by omega)]

theorem cmpN_lt {f g : Nat → Int} {n k : Nat} (h : EqUpto f g k) (hk : k < n) (hl : f k < g k) : cmpN f g n 0 = -1 := by
  rw [cmpN_skip h (by omega), show n - k = (n - (k + 1)) + 1 by omega]
  simp only [cmpN]; rw [if_pos hl]

theorem cmpN_gt {f g : Nat → Int} {n k : Nat} (h : EqUpto f g k) (hk : k < n) (hl : g k < f k) : cmpN f g n 0 = 1 := by
  rw [cmpN_skip h (by omega), show n - k = (n - (k + 1)) + 1 by omega]
  simp only [cmpN]; rw [if_neg (by omega), if_pos hl]

theorem cmpN_eq {f g : Nat → Int} {n : Nat} (h : EqUpto f g n) : cmpN f g n 0 = 0 := by
  rw [cmpN_skip h (Nat.le_refl _), Nat.sub_self]; rfl

theorem eqF_upto {f g : Nat → Int} {n : Nat} : eqF f g (List.range n) = true ↔ EqUpto f g n := by
  simp [eqF, EqUpto]

theorem cmpN_zero {f g : Nat → Int} (j k : Nat) (h : ∀ i, k ≤ i → f i = g i) : cmpN f g j k = 0 := by
  induction j generalizing k with
  | zero => rfl
  | succ j ih =>
    have := h k (Nat.le_refl _)
    simp only [cmpN]
    rw [if_neg (by omega), if_neg (by omega)]
    exact ih (k + 1) (fun i hi => h i (by omega))

theorem cmpN_pad (xs ys : List Int) (n j m k : Nat) (hm : k + m = n) : cmpN (fOf xs n) (fOf ys n) (m + j) k = cmpN (getF xs) (getF ys) m k := by
  induction m generalizing k with
  | zero =>
    rw [Nat.zero_add]
    exact cmpN_zero j k (fun i hi => by unfold fOf; rw [if_neg (by omega), if_neg (by omega)])
  | succ m ih =>
    rw [show m + 1 + j = (m + j) + 1 by omega]
    simp only [cmpN]
    rw [ih (k + 1) (by omega)]
    have e1 : fOf xs n k = getF xs k := by unfold fOf getF; rw [if_pos (by omega)]
    have e2 : fOf ys n k = getF ys k := by unfold fOf getF; rw [if_pos (by omega)]
    rw [e1, e2]

/-- A call that answers an int and writes into nothing that was there. -/
def IntEnd (n : Int) (w : World) (e : Ending) (w' : World) : Prop := e = .returned (.int .i64 n) ∧ Below w.heap.size w w'

theorem ret_intC {a b : Int} (h : a = b) : Ending.returned (.int .i64 a) = .returned (.int .i64 b) := by rw [h]

def cmpB (p : Int) (xs ys : List Int) : Int := if goodB p xs && goodB p ys then cmpN (getF xs) (getF ys) xs.length 0 else 0

def CmpEnd (p : Int) (xs ys : List Int) (w : World) (e : Ending) (w' : World) : Prop :=
  e = .returned (.tuple #[.int .i64 (cmpB p xs ys), .bool (goodB p xs && goodB p ys)]) ∧ Below w.heap.size w w'

theorem cmpEnd_no {p : Int} {xs ys : List Int} {w w' : World} (h : (goodB p xs && goodB p ys) = false) (hb : Below w.heap.size w w') : CmpEnd p xs ys w (.returned (.tuple #[.int .i64 0, .bool false])) w' := by
  refine ⟨?_, hb⟩; unfold cmpB; rw [h]; rfl

theorem cmpEnd_yes {p : Int} {xs ys : List Int} {w w' : World} {c : Int} (h : (goodB p xs && goodB p ys) = true) (hc : cmpN (getF xs) (getF ys) xs.length 0 = c) (hb : Below w.heap.size w w') : CmpEnd p xs ys w (.returned (.tuple #[.int .i64 c, .bool true])) w' := by
  refine ⟨?_, hb⟩; unfold cmpB; rw [h, hc]; rfl

end Go.Proofs.Ytakenobplljkbab


/- A map from marks to their numbers: its block holds the marks in the order in which they were met; what looking up, storing a new one and counting do. -/
namespace Go.Proofs.Ytakenobplljkbab
open Go.RowKit
open Go.ChangeMaps (setBlock heap_setBlock_same heap_setBlock_other)
set_option maxRecDepth 10000

/-- The entries: each mark with its number. -/
def entsOf (l : Nat) (ms : List (List Int)) : Array MapEntry := (ms.mapIdx fun i m => ⟨.agg (packOf m l), .int .i64 (i : Int), i⟩).toArray

theorem entsOf_size (l : Nat) (ms : List (List Int)) : (entsOf l ms).size = ms.length := by simp [entsOf]

theorem entsOf_push (l : Nat) (ms : List (List Int)) (m : List Int) : entsOf l (ms ++ [m]) = (entsOf l ms).push ⟨.agg (packOf m l), .int .i64 (ms.length : Int), ms.length⟩ := by
  simp [entsOf, List.mapIdx_append]

/-- Block b is the map of the marks ms. -/
def MapIs (w : World) (b l : Nat) (ms : List (List Int)) : Prop := w.heap[b]? = some (.map (entsOf l ms) ms.length)

/-- Two marks of l places are packed alike where they are one. -/
theorem pack_eq {l : Nat} {m u : List Int} (hl : l ≤ 16) (hm : m.length = l) (hu : u.length = l) : eqF (fOf m l) (fOf u l) (List.range 16) = true ↔ m = u := by
  constructor
  · intro h
    have h' := eqF_upto.mp h
    apply List.ext_getElem?
    intro i
    by_cases hi : i < l
    · have := h' i (by omega)
      unfold fOf at this
      rw [if_pos hi, if_pos hi, List.getD_eq_getElem?_getD, List.getD_eq_getElem?_getD, List.getElem?_eq_getElem (by omega), List.getElem?_eq_getElem (by omega)] at this
      rw [List.getElem?_eq_getElem (by omega), List.getElem?_eq_getElem (by omega)]
      simpa using this
    · rw [List.getElem?_eq_none (by omega), List.getElem?_eq_none (by omega)]
  · rintro rfl
    exact eqF_upto.mpr fun i _ => rfl

theorem run_checkTokD (d : Nat) (em : Bool) (f : Nat → Int) (w : World) : (Instr.checkKey em (d + 1 + 1) 76 (.agg (tokF f))).run Try.prog w = .ok () w := by
  obtain ⟨i, hi, hs⟩ := Option.map_eq_some_iff.1 Try.size5
  have h1 : ∀ j, j < 16 → (Instr.checkKey em (d + 1) 5 (.int .u8 (f j))).run Try.prog w = .ok () w := fun j _ => by
    simp [Instr.checkKey, run_underlying Try.underlying5]
  have key : ∀ l : List Nat, (∀ i ∈ l, i < 16) → (Sem.run Try.prog (forIn l PUnit.unit fun i _ => do
      Instr.checkKey em (d + 1) 5 (← part 5 (tokF f) (i * (← sizeOf 5)))
      pure (ForInStep.yield PUnit.unit)) w) = .ok PUnit.unit w := by
    intro l
    induction l with
    | nil => intro _; simp
    | cons j l ih =>
      intro hl
      have hj := hl j (by simp)
      simp only [List.forIn_cons, Sem.run_bind, sizeOf, typeInfo, run_program, hi, hs, Nat.mul_one, run_part_tok f j hj, Result.andThen_ok, h1 j hj, Sem.run_pure]
      simpa [sizeOf, typeInfo, hi, hs] using ih (fun i h => hl i (by simp [h]))
  have k16 := key (List.range' 0 16) (by intro i hi; simp [List.mem_range'] at hi; omega)
  unfold Instr.checkKey
  simp only [Sem.run_bind, run_underlying Try.underlying76, Result.andThen_ok, Sem.run_pure, Std.Legacy.Range.forIn_eq_forIn_range']
  rw [show [:16].size = 16 from rfl, k16]
  rfl

theorem run_checkTok (em : Bool) (f : Nat → Int) (w : World) : (Instr.checkKey em 10000 76 (.agg (tokF f))).run Try.prog w = .ok () w := run_checkTokD 9998 em f w

theorem run_equalTok (f g : Nat → Int) (w : World) : (Op.equal 76 (.agg (tokF f)) (.agg (tokF g))).run Try.prog w = .ok (eqF f g (List.range 16)) w := run_equalIn_tok 9999 9998 rfl f g w

/-- The place of a mark among the first ones. -/
theorem run_askTok {l : Nat} (hl : l ≤ 16) (m : List Int) (hm : m.length = l) (w : World) : ∀ (ms : List (List Int)) (k : Nat), (∀ u ∈ ms, u.length = l) →
    (Instr.findAsking 76 (.agg (packOf m l)) (ms.mapIdx fun i u => (⟨.agg (packOf u l), .int .i64 ((k + i : Nat) : Int), k + i⟩ : MapEntry)) k).run Try.prog w =
      .ok (if m ∈ ms then some (k + ms.idxOf m, .int .i64 ((k + ms.idxOf m : Nat) : Int)) else none) w
  | [], k, _ => by simp [Instr.findAsking]
  | u :: ms, k, h => by
    have hu := h u (by simp)
    have he := run_equalTok (fOf m l) (fOf u l) w
    have ih := run_askTok hl m hm w ms (k + 1) (fun x hx => h x (by simp [hx]))
    have e1 : (ms.mapIdx fun i u => (⟨.agg (packOf u l), .int .i64 ((k + 1 + i : Nat) : Int), k + 1 + i⟩ : MapEntry)) = (ms.mapIdx fun i u => (⟨.agg (packOf u l), .int .i64 ((k + (i + 1) : Nat) : Int), k + (i + 1)⟩ : MapEntry)) := by
      congr 1; funext i u; rw [show k + 1 + i = k + (i + 1) by omega]
    rw [e1] at ih
    rw [List.mapIdx_cons]
    by_cases hq : m = u
    · subst hq
      rw [(pack_eq hl hm hm).mpr rfl] at he
      simp [Instr.findAsking, packOf, he]
    · have hq' : eqF (fOf m l) (fOf u l) (List.range 16) = false := by
        cases hc : eqF (fOf m l) (fOf u l) (List.range 16)
        · rfl
        · exact absurd ((pack_eq hl hm hu).mp hc) hq
      rw [hq'] at he
      have hidx : (u :: ms).idxOf m = ms.idxOf m + 1 := by
        rw [List.idxOf_cons, show (u == m) = false from by simpa using (fun e => hq e.symm : ¬ u = m)]; rfl
      have hmem : (m ∈ u :: ms) ↔ m ∈ ms := by simp [hq]
      unfold Instr.findAsking
      simp only [Sem.run_bind, show (Op.equal 76 (.agg (packOf m l)) (.agg (packOf u l))).run Try.prog w = .ok false w from he, Result.andThen_ok, Bool.false_eq_true, if_false, ih, hidx, hmem]
      split
      · rw [show k + 1 + ms.idxOf m = k + (ms.idxOf m + 1) by omega]
      · rfl

theorem run_findTok {l : Nat} (hl : l ≤ 16) (m : List Int) (hm : m.length = l) (w : World) (ms : List (List Int)) (h : ∀ u ∈ ms, u.length = l) :
    (Instr.findKey 76 (.agg (packOf m l)) (entsOf l ms).toList).run Try.prog w = .ok (if m ∈ ms then some (ms.idxOf m, .int .i64 ((ms.idxOf m : Nat) : Int)) else none) w := by
  have ha := run_askTok hl m hm w ms 0 h
  simp only [Nat.zero_add] at ha
  cases ms with
  | nil => simp [Instr.findKey, run_underlying Try.underlying76, entsOf, Instr.findNow, Result.andThen]
  | cons u r =>
    have hn : Instr.findNow (.array 16 5) (.agg (packOf m l)) (entsOf l (u :: r)).toList 0 = none := by
      simp [entsOf, List.mapIdx_cons, Instr.findNow, Instr.sameNow]
    unfold Instr.findKey
    simp only [Sem.run_bind, run_underlying Try.underlying76, Result.andThen_ok, hn]
    simpa [entsOf] using ha

theorem zeroInt (w : World) : (zeroValue 3).run Try.prog w = .ok (.int .i64 0) w := by kernel_rfl

/-- v, ok := numbers[m]. -/
theorem run_lookTok {l b : Nat} (hl : l ≤ 16) {m : List Int} (hm : m.length = l) {w : World} {ms : List (List Int)} (h : ∀ u ∈ ms, u.length = l) (hb : MapIs w b l ms) (c : Bool) :
    (Instr.lookup 71 (.map (some b)) (.agg (packOf m l)) c).run Try.prog w = .ok (if c then .tuple #[.int .i64 (if m ∈ ms then (ms.idxOf m : Int) else 0), .bool (decide (m ∈ ms))] else .int .i64 (if m ∈ ms then (ms.idxOf m : Int) else 0)) w := by
  have hf := run_findTok hl m hm w ms h
  have hck := run_checkTok (entsOf l ms).isEmpty (fOf m l) w
  unfold MapIs at hb
  by_cases hq : m ∈ ms
  · rw [if_pos hq] at hf
    cases c <;> simp [Instr.lookup, run_underlying Try.underlying71, MapKept.run_getObj_map hb, show (Instr.checkKey (entsOf l ms).isEmpty 10000 76 (.agg (packOf m l))).run Try.prog w = .ok () w from hck, hf, hq, Result.andThen]
  · rw [if_neg hq] at hf
    cases c <;> simp [Instr.lookup, run_underlying Try.underlying71, MapKept.run_getObj_map hb, show (Instr.checkKey (entsOf l ms).isEmpty 10000 76 (.agg (packOf m l))).run Try.prog w = .ok () w from hck, hf, hq, Result.andThen]

theorem run_lenTok {l b : Nat} {w : World} {ms : List (List Int)} (hb : MapIs w b l ms) (ty : TypeId) : (Builtin.len_ #[71] ty #[.map (some b)]).run Try.prog w = .ok (.int .i64 (ms.length : Int)) w := by
  unfold MapIs at hb
  simp [Builtin.len_, run_underlying Try.underlying71, MapKept.run_getObj_map hb, goInt, Result.andThen, entsOf_size]

/-- numbers[m] = its number, of a new one. -/
theorem run_putTok {l b : Nat} (hl : l ≤ 16) {m : List Int} (hm : m.length = l) {w : World} {ms : List (List Int)} (h : ∀ u ∈ ms, u.length = l) (hb : MapIs w b l ms) (hn : m ∉ ms) :
    (Instr.mapUpdate 71 (.map (some b)) (.agg (packOf m l)) (.int .i64 (ms.length : Int))).run Try.prog w = .ok () (setBlock w b (.map (entsOf l (ms ++ [m])) (ms.length + 1))) := by
  have hf := run_findTok hl m hm w ms h
  have hck := run_checkTok false (fOf m l) w
  unfold MapIs at hb
  rw [if_neg hn] at hf
  rw [entsOf_push]
  simp [Instr.mapUpdate, run_underlying Try.underlying71, MapKept.run_getObj_map hb, show (Instr.checkKey false 10000 76 (.agg (packOf m l))).run Try.prog w = .ok () w from hck, hf, MapKept.run_setObj_map _ hb, Result.andThen, setBlock]

theorem MapIs.put {l b : Nat} {w : World} {ms : List (List Int)} (hb : MapIs w b l ms) (m : List Int) : MapIs (setBlock w b (.map (entsOf l (ms ++ [m])) (ms.length + 1))) b l (ms ++ [m]) := by
  unfold MapIs at *
  rw [heap_setBlock_same hb]
  simp

theorem MapIs.kept {l b : Nat} {w w' : World} {ms : List (List Int)} (h : MapIs w b l ms) (hb : w'.heap[b]? = w.heap[b]?) : MapIs w' b l ms := hb.trans h
theorem MapIs.lt {l b : Nat} {w : World} {ms : List (List Int)} (h : MapIs w b l ms) : b < w.heap.size := (Array.getElem?_eq_some_iff.mp h).1
end Go.Proofs.Ytakenobplljkbab


/- Steps of a region that draws its order, by hand: a call, an operation that is not wanted. -/
namespace Go.Proofs.Ytakenobplljkbab
open Go.RowKit

theorem run_callw {P : Program} {o : Oper} {a : Act} {w : World} (f : FuncId) (fn : Func) (xs : Array Operand) (ts : Array TypeId) (hop : o.op = Op.call { callee := Callee.value (Operand.func f), args := xs, argTypes := ts })
    (hfn : P.funcs[f]? = some fn) (hnm : (fn.name == "runtime.NumGoroutine") = false) (hbd : fn.body.isNone = false) : (execOp a.eval o).run P w = .ok (.enter f (xs.map a.eval)) w := by
  have hnm' : ¬ fn.name = "runtime.NumGoroutine" := by simpa using hnm
  have hbd' : ¬ fn.body = none := by intro e; rw [e] at hbd; simp at hbd
  unfold execOp
  simp only [hop]
  simp [resolve, invoke, go_sem, Act.eval, callFunc, hfn, hnm', hbd']

/-- A call that is wanted as one step of a region that draws its order. -/
theorem step_callW {P : Program} {ops : Array Oper} {o : Oper} {a : Act} {w : World} {K : Act → World → Prop} {Q : Exit → Act → World → Prop} {E : Prop}
    (hw : Region.wanted o (yielded ops a.tmps) = true) (f : FuncId) (fn : Func) (xs : Array Operand) (ts : Array TypeId) (hop : o.op = Op.call { callee := Callee.value (Operand.func f), args := xs, argTypes := ts })
    (hfn : P.funcs[f]? = some fn) (hnm : (fn.name == "runtime.NumGoroutine") = false) (hbd : fn.body.isNone = false) (args : Array Value) (hargs : xs.map a.eval = args) (R : Ending → World → Prop) (hc : Calls P f args w R)
    (h : ∀ e w', R e w' → ∃ v, e = .returned v ∧ K (a.put o.dst v) w') :
    if Region.wanted o (yielded ops a.tmps) = true then Oper.wp P o a w K Q else E := by
  rw [if_pos hw]
  unfold Oper.wp
  rw [run_callw f fn xs ts hop hfn hnm hbd, hargs, Oper.upon_enter]
  refine hc.mono fun e w'' hh => ?_
  obtain ⟨v, rfl, hk⟩ := h e w'' hh
  exact hk

theorem mapw1 (g : Operand → Value) (x : Operand) (v : Value) (h : g x = v) : (#[x] : Array Operand).map g = #[v] := by simp [h]
theorem mapw2 (g : Operand → Value) (x y : Operand) (v u : Value) (h : g x = v) (h2 : g y = u) : (#[x, y] : Array Operand).map g = #[v, u] := by simp [h, h2]

section
variable {P : Program} {ops : Array Oper} {Q : Exit → Act → World → Prop} {md : Region.Mode} {S : World → Prop}

/-- What is not wanted is taken first. -/
theorem take_no {i : Nat} {oi : Oper} {fuel : Nat} {listed : Array Bool} {a : Act} {w : World} (d : Option Tmp) (hi : ops[i]? = some oi) (hd : oi.dst = d)
    (hs : Region.noSelect ops = true) (hf : Region.free md ops listed i = true) (hr : (Region.ready md ops listed).contains i = true)
    (hQ : ∀ c a w, Q (.panic c) (a.put d undef) w → Q (.panic c) a w) (hw : Region.wanted oi (yielded ops a.tmps) = false) (hS : S w)
    (h : wpAnyH P md ops Q S fuel (listed.setIfInBounds i true) (a.put d undef) w) : wpAnyH P md ops Q S (fuel + 1) listed a w := by
  subst hd
  exact wpAnyH_take hi hs hf hr hQ (.inr ⟨hw, rfl⟩) hS h

/-- What is wanted and yields its value wherever S holds is taken first. -/
theorem take_yes {i : Nat} {oi : Oper} {fuel : Nat} {listed : Array Bool} {a : Act} {w : World} (d : Option Tmp) (v : Value) (hi : ops[i]? = some oi) (hd : oi.dst = d)
    (hs : Region.noSelect ops = true) (hf : Region.free md ops listed i = true) (hr : (Region.ready md ops listed).contains i = true)
    (hQ : ∀ c a w, Q (.panic c) (a.put d v) w → Q (.panic c) a w) (hw : Region.wanted oi (yielded ops a.tmps) = true) (hy : ∀ w, S w → (execOp a.eval oi).run P w = .ok (.value v) w) (hS : S w)
    (h : wpAnyH P md ops Q S fuel (listed.setIfInBounds i true) (a.put d v) w) : wpAnyH P md ops Q S (fuel + 1) listed a w := by
  subst hd
  exact wpAnyH_take hi hs hf hr hQ (.inl ⟨hw, hy⟩) hS h

/-- A call that must come up next. -/
theorem call_next {i : Nat} {oi : Oper} {fuel : Nat} {listed : Array Bool} {a : Act} {w : World} (d : Option Tmp) (hi : ops[i]? = some oi) (hd : oi.dst = d) (hr : Region.ready md ops listed = [i])
    (hw : Region.wanted oi (yielded ops a.tmps) = true) (f : FuncId) (fn : Func) (xs : Array Operand) (ts : Array TypeId) (hop : oi.op = Op.call { callee := Callee.value (Operand.func f), args := xs, argTypes := ts })
    (hfn : P.funcs[f]? = some fn) (hnm : (fn.name == "runtime.NumGoroutine") = false) (hbd : fn.body.isNone = false) (args : Array Value) (hargs : xs.map a.eval = args) (R : Ending → World → Prop) (hc : Calls P f args w R)
    (h : ∀ e w', R e w' → ∃ v, e = .returned v ∧ S w' ∧ (S w' → wpAnyH P md ops Q S fuel (listed.setIfInBounds i true) (a.put d v) w')) : wpAnyH P md ops Q S (fuel + 1) listed a w := by
  subst hd
  refine wpAnyH_ready hr (by simp) (AllReadyH.cons hi (fun K hK => ?_) AllReadyH.nil)
  refine step_callW hw f fn xs ts hop hfn hnm hbd args hargs R hc ?_
  intro e w' hR
  obtain ⟨v, e1, h1, h2⟩ := h e w' hR
  exact ⟨v, e1, hK.out _ _ h1 h2⟩

/-- A store of a whole row that must come up next. -/
theorem store_next {i : Nat} {oi : Oper} {fuel : Nat} {listed : Array Bool} {a : Act} {w : World} (hi : ops[i]? = some oi) (hd : oi.dst = none) (hr : Region.ready md ops listed = [i])
    (hw : Region.wanted oi (yielded ops a.tmps) = true) (ty : TypeId) (x y : Operand) (hop : oi.op = .store ty x y)
    (g : Nat) (cells : Array Value) (hx : a.eval x = .pointer (some ⟨g, 0, none⟩)) (hy : a.eval y = .agg cells)
    (t : TypeId) (old : Array Value) (hg : w.heap[g]? = some (.cells old t (0, 0))) (hz : (P.info? ty).map (·.size) = some cells.size)
    (hold : old.size = cells.size) (h1 : cells.all (·.oneCell') = true)
    (hS : S (w.setRow g cells)) (h : S (w.setRow g cells) → wpAnyH P md ops Q S fuel (listed.setIfInBounds i true) a (w.setRow g cells)) : wpAnyH P md ops Q S (fuel + 1) listed a w := by
  refine wpAnyH_ready hr (by simp) (AllReadyH.cons hi (fun K hK => ?_) AllReadyH.nil)
  rw [if_pos hw]
  refine wp_store_row ty x y hop g cells hx hy t old hg hz hold h1 (hK.out _ _ ?_ ?_)
  · exact hS
  · rw [hd]; exact h

/-- A store of some cells in a row that must come up next. -/
theorem store_mid_next {i : Nat} {oi : Oper} {fuel : Nat} {listed : Array Bool} {a : Act} {w : World} (hi : ops[i]? = some oi) (hd : oi.dst = none) (hr : Region.ready md ops listed = [i])
    (hw : Region.wanted oi (yielded ops a.tmps) = true) (ty : TypeId) (x y : Operand) (hop : oi.op = .store ty x y)
    (b o : Nat) (cells : Array Value) (hx : a.eval x = .pointer (some ⟨b, o, none⟩)) (hy : a.eval y = .agg cells) (ht : w.there b o cells.size) (hz : (P.info? ty).map (·.size) = some cells.size)
    (h1 : cells.all (·.oneCell') = true)
    (hS : S (w.setCells b o cells.toList)) (h : S (w.setCells b o cells.toList) → wpAnyH P md ops Q S fuel (listed.setIfInBounds i true) a (w.setCells b o cells.toList)) : wpAnyH P md ops Q S (fuel + 1) listed a w := by
  refine wpAnyH_ready hr (by simp) (AllReadyH.cons hi (fun K hK => ?_) AllReadyH.nil)
  rw [if_pos hw]
  refine wp_store_mid ty x y hop b o cells hx hy ht hz h1 (hK.out _ _ ?_ ?_)
  · exact hS
  · rw [hd]; exact h
end

theorem mapw4 (g : Operand → Value) (x y z u : Operand) (a b c d : Value) (h : g x = a) (h2 : g y = b) (h3 : g z = c) (h4 : g u = d) : (#[x, y, z, u] : Array Operand).map g = #[a, b, c, d] := by simp [h, h2, h3, h4]

theorem setRow_sameW {w : World} {b : Nat} {C : Array Value} {t : TypeId} (hb : w.heap[b]? = some (.cells C t (0, 0))) (D : Array Value) : (w.setRow b D).heap[b]? = some (.cells D t (0, 0)) := by
  simp only [World.setRow, Array.getElem?_modify]
  rw [if_pos trivial, hb]
  rfl

theorem setRow_otherW (w : World) {b k : Nat} (h : k ≠ b) (D : Array Value) : (w.setRow b D).heap[k]? = w.heap[k]? := by
  simp only [World.setRow, Array.getElem?_modify]
  rw [if_neg (fun e => h e.symm)]
end Go.Proofs.Ytakenobplljkbab
