/- What the second half of a law over a flow or a net keeps in mind, its answer being one list or two; markFlow. -/
import Derived.Test.YtnknhjiofpjbbaaOb
namespace Go.Proofs.Ytnknhjiofpjbbaa
open Go.RowKit
set_option maxRecDepth 10000

/-- w: the world ahead of the law; u: behind the specification's answer; v: now. -/
structure Sz (w u v : World) (Cp Cx : Array Value) (Tp Tx : TypeId) (n B hi bx : Nat) (M : Nat → List Int) (ag : Option Addr) (bg ng : Nat) (lg : List Int) (ah : Option Addr) (bh nh : Nat) (lh : List Int) : Prop where
  old : Below w.heap.size w v
  mid : Below u.heap.size u v
  par : v.heap[w.heap.size]? = some (.cells Cp Tp (0, 0))
  x0 : v.heap[bx]? = some (.cells Cx Tx (0, 0))
  net : PartF v B hi (3 * n) 56 M
  g : Ob v ag bg ng lg
  h : Ob v ah bh nh lh

section
variable {w u v v' : World} {Cp Cx : Array Value} {Tp Tx : TypeId} {n B hi bx : Nat} {M : Nat → List Int} {ag : Option Addr} {bg ng : Nat} {lg l : List Int} {ah : Option Addr} {bh nh : Nat} {lh : List Int}

theorem Sz.grow (h : Sz w u v Cp Cx Tp Tx n B hi bx M ag bg ng lg ah bh nh lh) (hb : Below v.heap.size v v') : Sz w u v' Cp Cx Tp Tx n B hi bx M ag bg ng lg ah bh nh lh :=
  ⟨h.old.trans (hb.mono h.old.size), h.mid.trans (hb.mono h.mid.size), keep h.par hb, keep h.x0 hb, h.net.grow hb, h.g.grow hb, h.h.grow hb⟩

theorem Sz.markN {M' : Nat → List Int} (h : Sz w u v Cp Cx Tp Tx n B hi bx M ag bg ng lg ah bh nh lh) (hm : PartF v' B hi (3 * n) 56 M') (hk : Keeps (B + 1) hi v v') (h1 : w.heap.size ≤ B) (h2 : u.heap.size ≤ B) (hx : hi ≤ bx) (hg : hi ≤ bg) (hh : hi ≤ bh) :
    Sz w u v' Cp Cx Tp Tx n B hi bx M' ag bg ng lg ah bh nh lh :=
  ⟨h.old.trans (hk.bel.mono (by omega)), h.mid.trans (hk.bel.mono (by omega)), (hk.bel.block _ (by omega)).trans h.par, (hk.top bx hx (row_lt h.x0)).trans h.x0, hm, h.g.keeps hk hg, h.h.keeps hk hh⟩

theorem Sz.markG (h : Sz w u v Cp Cx Tp Tx n B hi bx M ag bg ng lg ah bh nh lh) (hm : Ob v' ag bg ng l) (ho : Only bg v v') (h1 : w.heap.size < bg) (h2 : u.heap.size ≤ bg) (hb : hi ≤ bg) (hB : B ≠ bg) (hx : bx ≠ bg) (hy : bh ≠ bg) :
    Sz w u v' Cp Cx Tp Tx n B hi bx M ag bg ng l ah bh nh lh :=
  ⟨h.old.trans (ho.below (by omega)), h.mid.trans (ho.below h2), (ho.block _ (by omega)).trans h.par, (ho.block _ hx).trans h.x0, h.net.only ho hb hB, hm, h.h.only ho hy⟩

theorem Sz.markH (h : Sz w u v Cp Cx Tp Tx n B hi bx M ag bg ng lg ah bh nh lh) (hm : Ob v' ah bh nh l) (ho : Only bh v v') (h1 : w.heap.size < bh) (h2 : u.heap.size ≤ bh) (hb : hi ≤ bh) (hB : B ≠ bh) (hx : bx ≠ bh) (hy : bg ≠ bh) :
    Sz w u v' Cp Cx Tp Tx n B hi bx M ag bg ng lg ah bh nh l :=
  ⟨h.old.trans (ho.below (by omega)), h.mid.trans (ho.below h2), (ho.block _ (by omega)).trans h.par, (ho.block _ hx).trans h.x0, h.net.only ho hb hB, h.g.only ho hy, hm⟩
end

theorem cells4c {w : World} {b : Nat} {v0 v1 v2 v3 : Value} {T : TypeId} (h : w.heap[b]? = some (.cells #[v0, v1, v2, v3] T (0, 0))) :
    w.cell? ⟨b, 0, none⟩ = some v0 ∧ w.cell? ⟨b, 1, none⟩ = some v1 ∧ w.cell? ⟨b, 2, none⟩ = some v2 ∧ w.cell? ⟨b, 3, none⟩ = some v3 :=
  ⟨cell_of_row w b 0 _ _ _ h, cell_of_row w b 1 _ _ _ h, cell_of_row w b 2 _ _ _ h, cell_of_row w b 3 _ _ _ h⟩

set_option maxHeartbeats 400000 in
theorem markFlow_any (p f t : Int) (B hi n c k0 : Nat) (T : TypeId) (M : Nat → List Int) (w : World) (h : PartF w B hi (3 * n) T M) (hs : cntF M (3 * n) ≤ 1048576) (hn : n ≤ 1048576) (hk0 : k0 ≤ 2097152) :
    Calls Try.prog 25 #[.agg #[.int .i64 p, .slice (some ⟨B, 0, none⟩) n c, .int .i64 f, .int .i64 t], .int .i64 (k0 : Int)] w fun e w' => e = .returned (.int .i64 ((k0 + cntF M (3 * n) : Nat) : Int)) ∧ PartF w' B hi (3 * n) T (markedF k0 M (3 * n)) ∧ Keeps (B + 1) hi w w' := by
  have hA := below_al w (.cells #[.int .i64 p, .slice (some ⟨B, 0, none⟩) n c, .int .i64 f, .int .i64 t] 33)
  have hlt : B < w.heap.size := by obtain ⟨C, f, h1, _⟩ := h; exact (Array.getElem?_eq_some_iff.mp h1).1
  have HT := hide (markNet_any p B hi n c k0 T M _ (h.grow hA) hs hn hk0)
  have HK := hide (Keeps.of_below (lo := B + 1) (hi := hi) hA (by omega))
  obtain ⟨t0, ht0⟩ : ∃ t, Hid (k0 + cntF M (3 * n) = t) := ⟨_, rfl⟩
  rw [ht0.out] at HT ⊢
  clear h hA
  go_enter Try.func25, Try.ntmps25
  go_wp2_with fail
  refine HT.out.mono ?_
  rintro e w3 ⟨rfl, p3, kp3⟩
  have HP3 := hide p3
  have HK3 := hide (HK.out.trans kp3)
  clear p3 kp3 HT HK
  go_wp2_with fail
  go_ret
  exact ⟨rfl, HP3.out, HK3.out⟩
end Go.Proofs.Ytnknhjiofpjbbaa
