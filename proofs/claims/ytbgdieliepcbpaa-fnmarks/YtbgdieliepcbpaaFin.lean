/- What the second half of a law of lists keeps in mind: the two lists handed in, the one answered, each in a block of its own, and the specification's answer, while memory grows and blocks are marked. -/
import Derived.Test.YtbgdieliepcbpaaAdd
namespace Go.Proofs.Ytbgdieliepcbpaa
open Go.RowKit

theorem Blk.grow {w w' : World} {a : Option Addr} {b n : Nat} {xs : List Int} (h : Blk w a b n xs) (hb : Below w.heap.size w w') : Blk w' a b n xs := by
  refine ⟨h.1, ?_⟩
  rcases h.2 with h0 | ⟨e, hh⟩
  · exact .inl h0
  · exact .inr ⟨e, (hb.block b (Array.getElem?_eq_some_iff.mp hh).1).trans hh⟩

theorem blk_new (w : World) (xs : List Int) (n : Nat) (hl : xs.length = n) : Blk (w.alloc (.cells (cellsOf xs) 3)) (some ⟨w.heap.size, 0, none⟩) w.heap.size n xs :=
  ⟨hl, .inr ⟨rfl, heap_alloc_new _ _⟩⟩

/-- w: the world ahead of the law; u: behind the specification's answer; v: now. -/
structure St (w u v : World) (ax ay ag : Option Addr) (bx bY bg nx ny ng : Nat) (lx ly lg : List Int) : Prop where
  old : Below w.heap.size w v
  mid : Below u.heap.size u v
  x : Blk v ax bx nx lx
  y : Blk v ay bY ny ly
  g : Blk v ag bg ng lg

theorem St.grow {w u v v' : World} {ax ay ag : Option Addr} {bx bY bg nx ny ng : Nat} {lx ly lg : List Int} (h : St w u v ax ay ag bx bY bg nx ny ng lx ly lg) (hb : Below v.heap.size v v') :
    St w u v' ax ay ag bx bY bg nx ny ng lx ly lg :=
  ⟨h.old.trans (hb.mono h.old.size), h.mid.trans (hb.mono h.mid.size), h.x.grow hb, h.y.grow hb, h.g.grow hb⟩

theorem St.markX {w u v v' : World} {ax ay ag : Option Addr} {bx bY bg nx ny ng : Nat} {lx ly lg l : List Int} (h : St w u v ax ay ag bx bY bg nx ny ng lx ly lg) (hm : Blk v' ax bx nx l) (ho : Only bx v v') (h1 : w.heap.size ≤ bx) (h2 : u.heap.size ≤ bx) (hy : bY ≠ bx) (hg : bg ≠ bx) :
    St w u v' ax ay ag bx bY bg nx ny ng l ly lg :=
  ⟨h.old.trans (ho.below h1), h.mid.trans (ho.below h2), hm, h.y.only ho hy, h.g.only ho hg⟩

theorem St.markY {w u v v' : World} {ax ay ag : Option Addr} {bx bY bg nx ny ng : Nat} {lx ly lg l : List Int} (h : St w u v ax ay ag bx bY bg nx ny ng lx ly lg) (hm : Blk v' ay bY ny l) (ho : Only bY v v') (h1 : w.heap.size ≤ bY) (h2 : u.heap.size ≤ bY) (hx : bx ≠ bY) (hg : bg ≠ bY) :
    St w u v' ax ay ag bx bY bg nx ny ng lx l lg :=
  ⟨h.old.trans (ho.below h1), h.mid.trans (ho.below h2), h.x.only ho hx, hm, h.g.only ho hg⟩

theorem St.markG {w u v v' : World} {ax ay ag : Option Addr} {bx bY bg nx ny ng : Nat} {lx ly lg l : List Int} (h : St w u v ax ay ag bx bY bg nx ny ng lx ly lg) (hm : Blk v' ag bg ng l) (ho : Only bg v v') (h1 : w.heap.size ≤ bg) (h2 : u.heap.size ≤ bg) (hx : bx ≠ bg) (hy : bY ≠ bg) :
    St w u v' ax ay ag bx bY bg nx ny ng lx ly l :=
  ⟨h.old.trans (ho.below h1), h.mid.trans (ho.below h2), h.x.only ho hx, h.y.only ho hy, hm⟩

theorem below_alloc' (w : World) (o : Obj) : Below w.heap.size w (w.alloc o) := (Below.refl _ _).alloc (Nat.le_refl _) _

theorem addR_len (p : Int) (xs ys : List Int) : (addR p xs ys).length ≤ xs.length := by
  unfold addR; split
  · rw [sumL_len]; exact Nat.le_refl _
  · exact Nat.zero_le _
end Go.Proofs.Ytbgdieliepcbpaa
