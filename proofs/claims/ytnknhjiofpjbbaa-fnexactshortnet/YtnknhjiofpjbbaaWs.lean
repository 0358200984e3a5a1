/- What can be come to, as the specification marks it: l3Forward and l3Back. -/
import Derived.Test.YtnknhjiofpjbbaaWm
import Derived.Test.YtnknhjiofpjbbaaOn
namespace Go.Proofs.Ytnknhjiofpjbbaa
open Go.RowKit
set_option maxRecDepth 10000

/-- A block of n truths. -/
def BoolRow (w : World) (b n : Nat) (f : Nat → Bool) : Prop :=
  ∃ C : Array Value, w.heap[b]? = some (.cells C 4 (0, 0)) ∧ C.size = n ∧ ∀ i, i < n → C[i]? = some (.bool (f i))

theorem BoolRow.grow {w w' : World} {b n : Nat} {f : Nat → Bool} (h : BoolRow w b n f) (hb : Below w.heap.size w w') : BoolRow w' b n f := by
  obtain ⟨C, h1, h2, h3⟩ := h
  exact ⟨C, (hb.block b (Array.getElem?_eq_some_iff.mp h1).1).trans h1, h2, h3⟩

theorem BoolRow.cell {w : World} {b n i : Nat} {f : Nat → Bool} (h : BoolRow w b n f) (hi : i < n) : w.cell? ⟨b, i, none⟩ = some (.bool (f i)) ∧ w.frozen? ⟨b, i, none⟩ = false := by
  obtain ⟨C, h1, h2, h3⟩ := h
  exact ⟨(cell_of_row w b i C _ _ h1).trans (h3 i hi), frozen_of_row w b i C _ h1⟩

theorem BoolRow.lt {w : World} {b n : Nat} {f : Nat → Bool} (h : BoolRow w b n f) : b < w.heap.size := by
  obtain ⟨C, h1, _⟩ := h
  exact (Array.getElem?_eq_some_iff.mp h1).1

theorem BoolRow.other {w : World} {b n g o : Nat} {f : Nat → Bool} (h : BoolRow w b n f) (hg : b ≠ g) (v : Value) : BoolRow (w.setCell ⟨g, o, none⟩ v) b n f := by
  obtain ⟨C, h1, h2, h3⟩ := h
  exact ⟨C, (Below.heap_setCell _ _ _ _ hg).trans h1, h2, h3⟩

/-- The place i is marked. -/
def markB (f : Nat → Bool) (i j : Nat) : Bool := f j || decide (j = i)

theorem BoolRow.set {w : World} {b n i : Nat} {f : Nat → Bool} (h : BoolRow w b n f) (hi : i < n) : BoolRow (w.setCell ⟨b, i, none⟩ (.bool true)) b n (markB f i) := by
  obtain ⟨C, h1, h2, h3⟩ := h
  refine ⟨C.setIfInBounds i (.bool true), ?_, by simp [h2], fun j hj => ?_⟩
  · exact heap_setCell_same _ _ _ _ _ _ h1
  · rw [Array.getElem?_setIfInBounds]
    unfold markB
    by_cases e : i = j
    · subst e; simp [h2, hi]
    · rw [if_neg e, h3 j hj]; simp [show ¬ j = i by omega]

theorem made_bool (w : World) (n : Nat) : BoolRow (w.alloc (.cells (madeCells #[.bool false] n) 4)) w.heap.size n (fun _ => false) := by
  refine ⟨_, heap_alloc_new _ _, by rw [size_madeCells], fun i hi => ?_⟩
  simp [madeCells, hi, Nat.mod_one]

theorem Try.info4 : (Try.prog.info? 4).map (fun i => (i.zero, i.size, i.bytes)) = some (some (.bool false), 1, 1) := by kernel_rfl

/-- How many of the n truths in block b are so. -/
def cntW (w : World) (b n : Nat) : Nat := ((List.range n).filter fun i => match w.cell? ⟨b, i, none⟩ with | some (.bool true) => true | _ => false).length
def cntB (g : Nat → Bool) (n : Nat) : Nat := ((List.range n).filter g).length

theorem cntW_eq {w : World} {b n : Nat} {g : Nat → Bool} (h : BoolRow w b n g) : cntW w b n = cntB g n := by
  unfold cntW cntB
  congr 1
  apply List.filter_congr
  intro i hi
  rw [(h.cell (by simpa using hi)).1]
  cases g i <;> rfl

theorem cntB_le (g : Nat → Bool) (n : Nat) : cntB g n ≤ n := by
  unfold cntB
  have := List.length_filter_le g (List.range n)
  simpa using this

theorem cntB_mark {g : Nat → Bool} {n k : Nat} (hk : k < n) (h : g k = false) : cntB g n < cntB (markB g k) n := by
  unfold cntB
  induction n with
  | zero => omega
  | succ n ih =>
    rw [List.range_succ, List.filter_append, List.filter_append, List.length_append, List.length_append]
    by_cases e : k = n
    · subst e
      have h1 : (List.range k).filter (markB g k) = (List.range k).filter g := by
        apply List.filter_congr
        intro i hi
        have : i < k := by simpa using hi
        unfold markB; simp [show ¬ i = k by omega]
      rw [h1]; simp [h, markB]
    · have := ih (by omega)
      have h2 : [n].filter (markB g k) = [n].filter g := by
        have : markB g k n = g n := by unfold markB; simp [show ¬ n = k by omega]
        simp [List.filter, this]
      rw [h2]; omega

/-- The places of a list are marked. -/
def markL (f : Nat → Bool) (xs : List Int) (i : Nat) : Bool := f i || decide ((i : Int) ∈ xs)

theorem markL_nil (f : Nat → Bool) : markL f [] = f := by funext i; simp [markL]
theorem markL_snoc {f : Nat → Bool} {xs : List Int} {j : Nat} : markB (markL f xs) j = markL f (xs ++ [(j : Int)]) := by
  funext i
  unfold markB markL
  rw [Bool.or_assoc]
  congr 1
  rw [Bool.eq_iff_iff]
  simp only [Bool.or_eq_true, decide_eq_true_iff, List.mem_append, List.mem_singleton]
  constructor
  · rintro (h | h)
    · exact .inl h
    · exact .inr (by omega)
  · rintro (h | h)
    · exact .inl h
    · exact .inr (by omega)

/-- What the marks are like. -/
structure FwM (A D : Nat → List Int) (p n : Nat) (s : Int) (f g : Nat → Bool) : Prop where
  has : f s.toNat = true
  only : ∀ i, i < p → f i = true → Rch A D n s (i : Int)
  tra : ∀ k, k < n → g k = true → (∃ x ∈ A k, f x.toNat = true) ∧ ∀ q ∈ D k, f q.toNat = true

def Within (A : Nat → List Int) (p n : Nat) : Prop := ∀ k, k < n → ∀ x ∈ A k, 0 ≤ x ∧ x < (p : Int)

theorem FwM.more {A D : Nat → List Int} {p n k : Nat} {s : Int} {f g : Nat → Bool} (h : FwM A D p n s f g) (hA : Within A p n) (hD : Within D p n) (hk : k < n) {x : Int} (hx : x ∈ A k) (hf : f x.toNat = true) : FwM A D p n s (markL f (D k)) (markB g k) := by
  have up : ∀ i, f i = true → markL f (D k) i = true := fun i hi => by unfold markL; rw [hi]; rfl
  have hxr := hA k hk x hx
  refine ⟨up _ h.has, fun i hi hm => ?_, fun j hj hg => ?_⟩
  · unfold markL at hm
    rw [Bool.or_eq_true, decide_eq_true_iff] at hm
    rcases hm with hm | hm
    · exact h.only i hi hm
    · refine .step (p := x) ?_ hk hx hm
      have := h.only x.toNat (by omega) hf
      rwa [show ((x.toNat : Nat) : Int) = x by omega] at this
  · unfold markB at hg
    rw [Bool.or_eq_true, decide_eq_true_iff] at hg
    rcases hg with hg | rfl
    · obtain ⟨⟨y, hy, hfy⟩, h2⟩ := h.tra j hj hg
      exact ⟨⟨y, hy, up _ hfy⟩, fun q hq => up _ (h2 q hq)⟩
    · refine ⟨⟨x, hx, up _ hf⟩, fun q hq => ?_⟩
      unfold markL
      have hq0 := hD j hj q hq
      simp [show max q 0 = q by omega, hq]

/-- Nothing more can be marked by k. -/
def Rest (A : Nat → List Int) (f g : Nat → Bool) (k : Nat) : Prop := g k = true ∨ ∀ x ∈ A k, f x.toNat = false

noncomputable def rchT (A D : Nat → List Int) (n : Nat) (s : Int) (k : Nat) : Bool := (A k).any fun x => rchB A D n s x.toNat

theorem FwM.done {A D : Nat → List Int} {p n : Nat} {s : Int} {f g : Nat → Bool} (h : FwM A D p n s f g) (hA : Within A p n) (hD : Within D p n) (hs : 0 ≤ s ∧ s < (p : Int)) (hr : ∀ k, k < n → Rest A f g k) :
    (∀ i, i < p → f i = rchB A D n s i) ∧ ∀ k, k < n → g k = rchT A D n s k := by
  have h1 : ∀ i, (decide (i < p) && f i) = rchB A D n s i := by
    refine rch_all ?_ ?_ ?_
    · simp [h.has]; omega
    · intro i hi
      rw [Bool.and_eq_true, decide_eq_true_iff] at hi
      exact h.only i hi.1 hi.2
    · intro k hk x hx hf q hq
      rw [Bool.and_eq_true, decide_eq_true_iff] at hf
      have hq' := hD k hk q hq
      rcases hr k hk with hg | hg
      · simp [(h.tra k hk hg).2 q hq]; omega
      · rw [hg x hx] at hf; simp at hf
  have h2 : ∀ i, i < p → f i = rchB A D n s i := fun i hi => by rw [← h1 i]; simp [hi]
  refine ⟨h2, fun k hk => ?_⟩
  rw [Bool.eq_iff_iff]
  unfold rchT
  rw [List.any_eq_true]
  constructor
  · intro hg
    obtain ⟨⟨x, hx, hf⟩, _⟩ := h.tra k hk hg
    have := hA k hk x hx
    exact ⟨x, hx, by rw [← h2 _ (by omega)]; exact hf⟩
  · rintro ⟨x, hx, hf⟩
    have := hA k hk x hx
    rw [← h2 _ (by omega)] at hf
    rcases hr k hk with hg | hg
    · exact hg
    · rw [hg x hx] at hf; simp at hf

theorem FwM.start {A D : Nat → List Int} {p n : Nat} {s : Int} (hs : 0 ≤ s) : FwM A D p n s (markB (fun _ => false) s.toNat) (fun _ => false) := by
  refine ⟨by simp [markB], fun i _ hi => ?_, fun k _ hk => by simp at hk⟩
  simp [markB] at hi
  rw [show ((i : Nat) : Int) = s by omega]; exact .base

/-- What l3Forward and l3Back keep in mind. -/
structure FwInv (w wr : World) (p : Nat) (a : Option Addr) (n c : Nat) (f g : Nat → Bool) : Prop where
  par : wr.heap[w.heap.size]? = some (.cells #[.int .i64 (p : Int), .slice a n c] 31 (0, 0))
  pl : BoolRow wr (w.heap.size + 1) p f
  tr : BoolRow wr (w.heap.size + 1 + 1) n g
  bel : Below w.heap.size w wr

theorem FwInv.grow {w wr v : World} {p n c : Nat} {a : Option Addr} {f g : Nat → Bool} (h : FwInv w wr p a n c f g) (hb : Below wr.heap.size wr v) : FwInv w v p a n c f g :=
  ⟨keep h.par hb, h.pl.grow hb, h.tr.grow hb, h.bel.trans (hb.mono h.bel.size)⟩

theorem FwInv.setP {w wr : World} {p n c i : Nat} {a : Option Addr} {f g : Nat → Bool} (h : FwInv w wr p a n c f g) (hi : i < p) : FwInv w (wr.setCell ⟨w.heap.size + 1, i, none⟩ (.bool true)) p a n c (markB f i) g :=
  ⟨(Below.heap_setCell _ _ _ _ (by simp)).trans h.par, h.pl.set hi, h.tr.other (by omega) _, h.bel.setCell (by simp) _⟩

theorem FwInv.setT {w wr : World} {p n c i : Nat} {a : Option Addr} {f g : Nat → Bool} (h : FwInv w wr p a n c f g) (hi : i < n) : FwInv w (wr.setCell ⟨w.heap.size + 1 + 1, i, none⟩ (.bool true)) p a n c f (markB g i) :=
  ⟨(Below.heap_setCell _ _ _ _ (by simp; omega)).trans h.par, h.pl.other (by omega) _, h.tr.set hi, h.bel.setCell (by simp; omega) _⟩

theorem made_boolS (w : World) (n s : Nat) (hs : s < n) : BoolRow (w.alloc (.cells ((madeCells #[.bool false] n).setIfInBounds s (.bool true)) 4)) w.heap.size n (markB (fun _ => false) s) := by
  refine ⟨_, heap_alloc_new _ _, by simp [size_madeCells], fun i hi => ?_⟩
  rw [Array.getElem?_setIfInBounds]
  unfold markB
  by_cases e : s = i
  · subst e; simp [size_madeCells, hs]
  · rw [if_neg e]; simp [madeCells, hi, Nat.mod_one]; omega

theorem FwInv.start (w : World) (p n c s : Nat) (a : Option Addr) (hs : s < p) : FwInv w (((w.alloc (.cells #[.int .i64 (p : Int), .slice a n c] 31)).alloc (.cells ((madeCells #[.bool false] p).setIfInBounds s (.bool true)) 4)).alloc (.cells (madeCells #[.bool false] n) 4)) p a n c (markB (fun _ => false) s) (fun _ => false) := by
  have h1 := made_boolS (w.alloc (.cells #[.int .i64 (p : Int), .slice a n c] 31)) p s hs
  have h2 := made_bool ((w.alloc (.cells #[.int .i64 (p : Int), .slice a n c] 31)).alloc (.cells ((madeCells #[.bool false] p).setIfInBounds s (.bool true)) 4)) n
  rw [show (w.alloc (.cells #[.int .i64 (p : Int), .slice a n c] 31)).heap.size = w.heap.size + 1 by simp] at h1
  rw [show ((w.alloc (.cells #[.int .i64 (p : Int), .slice a n c] 31)).alloc (.cells ((madeCells #[.bool false] p).setIfInBounds s (.bool true)) 4)).heap.size = w.heap.size + 1 + 1 by simp] at h2
  refine ⟨?_, h1.grow (below_al _ _), h2, ?_⟩
  · exact keep (keep (heap_alloc_new _ _) (below_al _ _)) (below_al _ _)
  · exact ((below_al w _).alloc (by simp) _).alloc (by simp; omega) _

/-- How l3Forward and l3Back end. -/
def FwEnd (F : Nat → Bool) (G : Nat → Bool) (p n : Nat) (w : World) (e : Ending) (w' : World) : Prop :=
  ∃ b1 b2, e = .returned (.tuple #[.slice (some ⟨b1, 0, none⟩) p p, .slice (some ⟨b2, 0, none⟩) n n]) ∧ BoolRow w' b1 p F ∧ BoolRow w' b2 n G ∧ Below w.heap.size w w'

theorem BoolRow.same {w : World} {b n : Nat} {f g : Nat → Bool} (h : BoolRow w b n f) (e : ∀ i, i < n → f i = g i) : BoolRow w b n g := by
  obtain ⟨C, h1, h2, h3⟩ := h
  exact ⟨C, h1, h2, fun i hi => by rw [← e i hi]; exact h3 i hi⟩
end Go.Proofs.Ytnknhjiofpjbbaa
