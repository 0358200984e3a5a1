/- What the second half of a law over a net and a list keeps in mind: the net and the list handed in, the list answered, each in blocks of their own, and the specification's answer, while memory grows and blocks are marked. -/
import Derived.Test.YtnknhjiofpjbbaaMn
import Derived.Test.YtnknhjiofpjbbaaOn
namespace Go.Proofs.Ytnknhjiofpjbbaa
open Go.RowKit

theorem PartF.lists {w : World} {B hi n : Nat} {T : TypeId} {L : List (List Int)} (h : PartF w B hi (3 * n) T (fun j => L.getD j [])) (hl : L.length = 3 * n) (hs : sizeN n L ≤ 1048576) : Lists w (some ⟨B, 0, none⟩) (3 * n) L := by
  obtain ⟨C, f, h1, h2, h3, h4⟩ := h
  refine ⟨hl, .inr ⟨B, 0, rfl, (Array.getElem?_eq_some_iff.mp h1).1, fun j hj => ?_⟩⟩
  obtain ⟨e1, e2, e3, e4⟩ := h3 j hj
  refine ⟨_, _, _, by rw [cell_of_row w B (0 + j) C T _ h1, Nat.zero_add]; exact e1, ?_, e4.row⟩
  have := len_le L j
  show (L.getD j []).length ≤ maxLen
  unfold sizeN at hs; unfold maxLen; omega

theorem cntF_size (L : List (List Int)) (k : Nat) (hk : k ≤ L.length) : cntF (fun j => L.getD j []) k = sizeL (L.take k) := by
  induction k with
  | zero => simp [cntF, sizeL]
  | succ k ih => simp only [cntF]; rw [ih (by omega), sizeL_take_succ L k (by omega)]

theorem cntF_all {L : List (List Int)} {n : Nat} (hl : L.length = 3 * n) : cntF (fun j => L.getD j []) (3 * n) = sizeL L := by
  rw [cntF_size L (3 * n) (by omega), List.take_of_length_le (by omega)]

/-- w: the world ahead of the law; u: behind the specification's answer; v: now. -/
structure Sn (w u v : World) (p : Int) (a : Option Addr) (n c B hi bx : Nat) (M : Nat → List Int) (ax : Option Addr) (b1 nm : Nat) (ly : List Int) (ag : Option Addr) (bg ng : Nat) (lg : List Int) : Prop where
  old : Below w.heap.size w v
  mid : Below u.heap.size u v
  par : v.heap[w.heap.size]? = some (.cells #[.int .i64 p, .slice a n c] 24 (0, 0))
  x0 : v.heap[bx]? = some (.cells #[.int .i64 p, .slice (some ⟨B, 0, none⟩) n n] 31 (0, 0))
  net : PartF v B hi (3 * n) 56 M
  x1 : Blk v ax b1 nm ly
  g : Blk v ag bg ng lg

variable {w u v v' : World} {p : Int} {a : Option Addr} {n c B hi bx : Nat} {M : Nat → List Int} {ax : Option Addr} {b1 nm : Nat} {ly : List Int} {ag : Option Addr} {bg ng : Nat} {lg l : List Int}

theorem Sn.grow (h : Sn w u v p a n c B hi bx M ax b1 nm ly ag bg ng lg) (hb : Below v.heap.size v v') : Sn w u v' p a n c B hi bx M ax b1 nm ly ag bg ng lg :=
  ⟨h.old.trans (hb.mono h.old.size), h.mid.trans (hb.mono h.mid.size), keep h.par hb, keep h.x0 hb, h.net.grow hb, h.x1.grow' hb, h.g.grow' hb⟩

theorem Sn.markN {M' : Nat → List Int} (h : Sn w u v p a n c B hi bx M ax b1 nm ly ag bg ng lg) (hm : PartF v' B hi (3 * n) 56 M') (hk : Keeps (B + 1) hi v v') (h1 : w.heap.size ≤ B) (h2 : u.heap.size ≤ B) (hx : hi ≤ bx) (hy : hi ≤ b1) (hg : hi ≤ bg) :
    Sn w u v' p a n c B hi bx M' ax b1 nm ly ag bg ng lg :=
  ⟨h.old.trans (hk.bel.mono (by omega)), h.mid.trans (hk.bel.mono (by omega)), (hk.bel.block _ (by omega)).trans h.par, (hk.top bx hx (row_lt h.x0)).trans h.x0, hm, h.x1.keeps hk hy, h.g.keeps hk hg⟩

theorem PartF.only {w w' : World} {B hi n b : Nat} {T : TypeId} {M : Nat → List Int} (h : PartF w B hi n T M) (ho : Only b w w') (hb : hi ≤ b) (hB : B ≠ b) : PartF w' B hi n T M := by
  obtain ⟨C, f, h1, h2, h3, h4⟩ := h
  refine ⟨C, f, (ho.block B hB).trans h1, h2, fun j hj => ?_, h4⟩
  obtain ⟨e1, e2, e3, e4⟩ := h3 j hj
  exact ⟨e1, e2, e3, e4.only ho (by omega)⟩

theorem Sn.markX (h : Sn w u v p a n c B hi bx M ax b1 nm ly ag bg ng lg) (hm : Blk v' ax b1 nm l) (ho : Only b1 v v') (h1 : w.heap.size < b1) (h2 : u.heap.size ≤ b1) (hb : hi ≤ b1) (hB : B ≠ b1) (hx : bx ≠ b1) (hg : bg ≠ b1) :
    Sn w u v' p a n c B hi bx M ax b1 nm l ag bg ng lg :=
  ⟨h.old.trans (ho.below (by omega)), h.mid.trans (ho.below h2), (ho.block _ (by omega)).trans h.par, (ho.block _ hx).trans h.x0, h.net.only ho hb hB, hm, h.g.only ho hg⟩

theorem Sn.markG (h : Sn w u v p a n c B hi bx M ax b1 nm ly ag bg ng lg) (hm : Blk v' ag bg ng l) (ho : Only bg v v') (h1 : w.heap.size < bg) (h2 : u.heap.size ≤ bg) (hb : hi ≤ bg) (hB : B ≠ bg) (hx : bx ≠ bg) (hy : b1 ≠ bg) :
    Sn w u v' p a n c B hi bx M ax b1 nm ly ag bg ng l :=
  ⟨h.old.trans (ho.below (by omega)), h.mid.trans (ho.below h2), (ho.block _ (by omega)).trans h.par, (ho.block _ hx).trans h.x0, h.net.only ho hb hB, h.x1.only ho hy, hm⟩

theorem blk_new' (w : World) (xs : List Int) (n : Nat) (hl : xs.length = n) : Blk (w.alloc (.cells (cellsOf xs) 3)) (some ⟨w.heap.size, 0, none⟩) w.heap.size n xs :=
  ⟨hl, .inr ⟨rfl, heap_alloc_new _ _⟩⟩
end Go.Proofs.Ytnknhjiofpjbbaa
