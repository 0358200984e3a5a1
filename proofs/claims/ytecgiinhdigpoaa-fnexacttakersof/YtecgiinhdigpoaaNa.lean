/- What netAndTokens answers, for every net and list in memory. -/
import Derived.Test.YtecgiinhdigpoaaSg
import Derived.Test.YtecgiinhdigpoaaBoth
namespace Go.Proofs.Ytecgiinhdigpoaa
open Go.RowKit
set_option maxRecDepth 10000

theorem cons_load_s {P : Program} {md : Region.Mode} {ops : Array Oper} {Q : Exit → Act → World → Prop} {fuel : Nat} {listed : Array Bool} {a : Act} {w : World} {i : Nat} {o : Oper} {rs : List Nat} (ho : ops[i]? = some o)
    (hgd : o.guard = none) (d : Option Tmp) (hd : o.dst = d) (ty : TypeId) (x : Operand) (hop : o.op = .load ty x)
    (g : Nat) (cells : Array Value) (hx : a.eval x = .pointer (some ⟨g, 0, none⟩))
    (t : TypeId) (fs : Array Field) (hu : P.underlying ty = some (.struct fs)) (hg : w.heap[g]? = some (.cells cells t (0, 0))) (hi : (P.info? ty).map (·.size) = some cells.size)
    (h : wpAny P md ops Q fuel (listed.setIfInBounds i true) (a.put d (.agg cells)) w)
    (hs : AllReady P md ops Q fuel listed a w rs) : AllReady P md ops Q fuel listed a w (i :: rs) := by
  refine AllReady.cons ho (fun K hK => ?_) hs
  rw [if_pos (by simp [Region.wanted, hgd])]
  refine wp_load_row ty x hop g hx t cells (0, 0) _ hg hu rfl hi (hK _ _ ?_)
  rw [hd]
  exact h

theorem Try.size61 : (Try.prog.info? 61).map (·.size) = some 2 := by kernel_rfl

theorem one2 {x y : Value} (hx : x.oneCell' = true) (hy : y.oneCell' = true) : (#[x, y] : Array Value).all (·.oneCell') = true := by simp [hx, hy]

/-- How netAndTokens ends. -/
def NtEnd (g : Bool) (p : Int) (n nm : Nat) (L : List (List Int)) (ys : List Int) (w : World) (e : Ending) (w' : World) : Prop :=
  ∃ p' a m c l, e = .returned (.tuple #[.agg #[.int .i64 p', .slice a m c], .agg (packOf ys l), .bool g]) ∧ Hid (g = true → p' = p ∧ m = n ∧ c = n ∧ l = nm ∧ ∃ B, a = some ⟨B, 0, none⟩ ∧ w.heap.size ≤ B ∧ PartS w' B (3 * n) (3 * n) L) ∧ Below w.heap.size w w'

theorem PartS.setRow {w : World} {B n k g : Nat} {L : List (List Int)} (h : PartS w B n k L) (hg : B ≠ g) (D : Array Value) : PartS (w.setRow g D) B n k L := by
  obtain ⟨C, h1, h2, h3⟩ := h
  exact ⟨C, (setRow_other _ _ _ _ hg).trans h1, h2, h3⟩

theorem keepR {v : World} {b g : Nat} {C : Array Value} {t : TypeId} (h : v.heap[b]? = some (.cells C t (0, 0))) (hb : b ≠ g) (D : Array Value) : (v.setRow g D).heap[b]? = some (.cells C t (0, 0)) :=
  (setRow_other _ _ _ _ hb).trans h

end Go.Proofs.Ytecgiinhdigpoaa
