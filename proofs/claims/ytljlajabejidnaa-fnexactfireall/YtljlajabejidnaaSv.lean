/- What the second half of a law over a net and two lists keeps in mind: the net and the lists handed in, the list answered, each in blocks of their own, and the specification's answer, while memory grows and blocks are marked. -/
import Derived.Test.YtljlajabejidnaaSn
namespace Go.Proofs.Ytljlajabejidnaa
open Go.RowKit

/-- w: the world ahead of the law; u: behind the specification's answer; v: now. -/
structure Sv (w u v : World) (p : Int) (a : Option Addr) (n c B hi bx : Nat) (M : Nat → List Int) (ax : Option Addr) (b1 nm : Nat) (ly : List Int) (at' : Option Addr) (b2 nt : Nat) (lt : List Int) (ag : Option Addr) (bg ng : Nat) (lg : List Int) : Prop where
  old : Below w.heap.size w v
  mid : Below u.heap.size u v
  par : v.heap[w.heap.size]? = some (.cells #[.int .i64 p, .slice a n c] 24 (0, 0))
  x0 : v.heap[bx]? = some (.cells #[.int .i64 p, .slice (some ⟨B, 0, none⟩) n n] 31 (0, 0))
  net : PartF v B hi (3 * n) 47 M
  x1 : Blk v ax b1 nm ly
  x2 : Blk v at' b2 nt lt
  g : Blk v ag bg ng lg

variable {w u v v' : World} {p : Int} {a : Option Addr} {n c B hi bx : Nat} {M : Nat → List Int} {ax : Option Addr} {b1 nm : Nat} {ly : List Int} {at' : Option Addr} {b2 nt : Nat} {lt : List Int} {ag : Option Addr} {bg ng : Nat} {lg l : List Int}

theorem Sv.grow (h : Sv w u v p a n c B hi bx M ax b1 nm ly at' b2 nt lt ag bg ng lg) (hb : Below v.heap.size v v') : Sv w u v' p a n c B hi bx M ax b1 nm ly at' b2 nt lt ag bg ng lg :=
  ⟨h.old.trans (hb.mono h.old.size), h.mid.trans (hb.mono h.mid.size), keep h.par hb, keep h.x0 hb, h.net.grow hb, h.x1.grow' hb, h.x2.grow' hb, h.g.grow' hb⟩

theorem Sv.markN {M' : Nat → List Int} (h : Sv w u v p a n c B hi bx M ax b1 nm ly at' b2 nt lt ag bg ng lg) (hm : PartF v' B hi (3 * n) 47 M') (hk : Keeps (B + 1) hi v v') (h1 : w.heap.size ≤ B) (h2 : u.heap.size ≤ B) (hx : hi ≤ bx) (hy : hi ≤ b1) (hy2 : hi ≤ b2) (hg : hi ≤ bg) :
    Sv w u v' p a n c B hi bx M' ax b1 nm ly at' b2 nt lt ag bg ng lg :=
  ⟨h.old.trans (hk.bel.mono (by omega)), h.mid.trans (hk.bel.mono (by omega)), (hk.bel.block _ (by omega)).trans h.par, (hk.top bx hx (row_lt h.x0)).trans h.x0, hm, h.x1.keeps hk hy, h.x2.keeps hk hy2, h.g.keeps hk hg⟩

theorem Sv.mark1 (h : Sv w u v p a n c B hi bx M ax b1 nm ly at' b2 nt lt ag bg ng lg) (hm : Blk v' ax b1 nm l) (ho : Only b1 v v') (h1 : w.heap.size < b1) (h2 : u.heap.size ≤ b1) (hb : hi ≤ b1) (hB : B ≠ b1) (hx : bx ≠ b1) (hy : b2 ≠ b1) (hg : bg ≠ b1) :
    Sv w u v' p a n c B hi bx M ax b1 nm l at' b2 nt lt ag bg ng lg :=
  ⟨h.old.trans (ho.below (by omega)), h.mid.trans (ho.below h2), (ho.block _ (by omega)).trans h.par, (ho.block _ hx).trans h.x0, h.net.only ho hb hB, hm, h.x2.only ho hy, h.g.only ho hg⟩

theorem Sv.mark2 (h : Sv w u v p a n c B hi bx M ax b1 nm ly at' b2 nt lt ag bg ng lg) (hm : Blk v' at' b2 nt l) (ho : Only b2 v v') (h1 : w.heap.size < b2) (h2 : u.heap.size ≤ b2) (hb : hi ≤ b2) (hB : B ≠ b2) (hx : bx ≠ b2) (hy : b1 ≠ b2) (hg : bg ≠ b2) :
    Sv w u v' p a n c B hi bx M ax b1 nm ly at' b2 nt l ag bg ng lg :=
  ⟨h.old.trans (ho.below (by omega)), h.mid.trans (ho.below h2), (ho.block _ (by omega)).trans h.par, (ho.block _ hx).trans h.x0, h.net.only ho hb hB, h.x1.only ho hy, hm, h.g.only ho hg⟩

theorem Sv.markG (h : Sv w u v p a n c B hi bx M ax b1 nm ly at' b2 nt lt ag bg ng lg) (hm : Blk v' ag bg ng l) (ho : Only bg v v') (h1 : w.heap.size < bg) (h2 : u.heap.size ≤ bg) (hb : hi ≤ bg) (hB : B ≠ bg) (hx : bx ≠ bg) (hy : b1 ≠ bg) (hy2 : b2 ≠ bg) :
    Sv w u v' p a n c B hi bx M ax b1 nm ly at' b2 nt lt ag bg ng l :=
  ⟨h.old.trans (ho.below (by omega)), h.mid.trans (ho.below h2), (ho.block _ (by omega)).trans h.par, (ho.block _ hx).trans h.x0, h.net.only ho hb hB, h.x1.only ho hy, h.x2.only ho hy2, hm⟩
end Go.Proofs.Ytljlajabejidnaa
