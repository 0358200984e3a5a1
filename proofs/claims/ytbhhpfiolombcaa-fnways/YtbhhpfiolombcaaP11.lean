/- Contracts that the proof stands on, one behind the other. -/
import Derived.Test.YtbhhpfiolombcaaP10
/- What can be come to, as the specification marks it: l3Forward and l3Back. -/
namespace Go.Proofs.Ytbhhpfiolombcaa
open Go.RowKit
set_option maxRecDepth 10000

/-- A block of n truths. -/
def BoolRow (w : World) (b n : Nat) (f : Nat → Bool) : Prop :=
  ∃ C : Array Value, w.heap[b]? = some (.cells C 4 (0, 0)) ∧ C.size = n ∧ ∀ i, i < n → C[i]? = some (.bool (f i))

theorem BoolRow.grow {w w' : World} {b n : Nat} {f : Nat → Bool} (h : BoolRow w b n f) (hb : Below w.heap.size w w') : BoolRow w' b n f := by
  obtain ⟨C, h1, h2, h3⟩ := h
  exact ⟨C, (hb.block b (Array.getElem?_eq_some_iff.mp h1).1).trans h1, h2, h3⟩

theorem BoolRow.cell {w : World} {b n i : Nat} {f : Nat → Bool} (h : BoolRow w b n f) (hi : i < n) : w.cell? ⟨b, i, none⟩ = some (.bool (f i)) ∧ w.frozen? ⟨b, i, none⟩ = false := by
  obtain ⟨C, h1, h2, h3⟩ := h
  exact ⟨(cell_of_row w b i C _ _ h1).trans (h3 i hi), frozen_of_row w b i C _ h1⟩

theorem BoolRow.lt {w : World} {b n : Nat} {f : Nat → Bool} (h : BoolRow w b n f) : b < w.heap.size := by
  obtain ⟨C, h1, _⟩ := h
  exact (Array.getElem?_eq_some_iff.mp h1).1

theorem BoolRow.other {w : World} {b n g o : Nat} {f : Nat → Bool} (h : BoolRow w b n f) (hg : b ≠ g) (v : Value) : BoolRow (w.setCell ⟨g, o, none⟩ v) b n f := by
  obtain ⟨C, h1, h2, h3⟩ := h
  exact ⟨C, (Below.heap_setCell _ _ _ _ hg).trans h1, h2, h3⟩

/-- The place i is marked. -/
def markB (f : Nat → Bool) (i j : Nat) : Bool := f j || decide (j = i)

theorem BoolRow.set {w : World} {b n i : Nat} {f : Nat → Bool} (h : BoolRow w b n f) (hi : i < n) : BoolRow (w.setCell ⟨b, i, none⟩ (.bool true)) b n (markB f i) := by
  obtain ⟨C, h1, h2, h3⟩ := h
  refine ⟨C.setIfInBounds i (.bool true), ?_, by simp [h2], fun j hj => ?_⟩
  · exact heap_setCell_same _ _ _ _ _ _ h1
  · rw [Array.getElem?_setIfInBounds]
    unfold markB
    by_cases e : i = j
    · subst e; simp [h2, hi]
    · rw [if_neg e, h3 j hj]; simp [show ¬ j = i by omega]

theorem made_bool (w : World) (n : Nat) : BoolRow (w.alloc (.cells (madeCells #[.bool false] n) 4)) w.heap.size n (fun _ => false) := by
  refine ⟨_, heap_alloc_new _ _, by rw [size_madeCells], fun i hi => ?_⟩
  simp [madeCells, hi, Nat.mod_one]

theorem Try.info4 : (Try.prog.info? 4).map (fun i => (i.zero, i.size, i.bytes)) = some (some (.bool false), 1, 1) := by kernel_rfl

/-- How many of the n truths in block b are so. -/
def cntW (w : World) (b n : Nat) : Nat := ((List.range n).filter fun i => match w.cell? ⟨b, i, none⟩ with | some (.bool true) => true | _ => false).length
def cntB (g : Nat → Bool) (n : Nat) : Nat := ((List.range n).filter g).length

theorem cntW_eq {w : World} {b n : Nat} {g : Nat → Bool} (h : BoolRow w b n g) : cntW w b n = cntB g n := by
  unfold cntW cntB
  congr 1
  apply List.filter_congr
  intro i hi
  rw [(h.cell (by simpa using hi)).1]
  cases g i <;> rfl

theorem cntB_le (g : Nat → Bool) (n : Nat) : cntB g n ≤ n := by
  unfold cntB
  have := List.length_filter_le g (List.range n)
  simpa using this

theorem cntB_mark {g : Nat → Bool} {n k : Nat} (hk : k < n) (h : g k = false) : cntB g n < cntB (markB g k) n := by
  unfold cntB
  induction n with
  | zero => omega
  | succ n ih =>
    rw [List.range_succ, List.filter_append, List.filter_append, List.length_append, List.length_append]
    by_cases e : k = n
    · subst e
      have h1 : (List.range k).filter (markB g k) = (List.range k).filter g := by
        apply List.filter_congr
        intro i hi
        have : i < k := by simpa using hi
        unfold markB; simp [show ¬ i = k by omega]
      rw [h1]; simp [h, markB]
    · have := ih (by omega)
      have h2 : [n].filter (markB g k) = [n].filter g := by
        have : markB g k n = g n := by unfold markB; simp [show ¬ n = k by omega]
        simp [List.filter, this]
      rw [h2]; omega

/-- The places of a list are marked. -/
def markL (f : Nat → Bool) (xs : List Int) (i : Nat) : Bool := f i || decide ((i : Int) ∈ xs)

theorem markL_nil (f : Nat → Bool) : markL f [] = f := by funext i; simp [markL]
theorem markL_snoc {f : Nat → Bool} {xs : List Int} {j : Nat} : markB (markL f xs) j = markL f (xs ++ [(j : Int)]) := by
  funext i
  unfold markB markL
  rw [Bool.or_assoc]
  congr 1
  rw [Bool.eq_iff_iff]
  simp only [Bool.or_eq_true, decide_eq_true_iff, List.mem_append, List.mem_singleton]
  constructor
  · rintro (h | h)
    · exact .inl h
    · exact .inr (by omega)
  · rintro (h | h)
    · exact .inl h
    · exact .inr (by omega)

/-- What the marks are like. -/
structure FwM (A D : Nat → List Int) (p n : Nat) (s : Int) (f g : Nat → Bool) : Prop where
  has : f s.toNat = true
  only : ∀ i, i < p → f i = true → Rch A D n s (i : Int)
  tra : ∀ k, k < n → g k = true → (∃ x ∈ A k, f x.toNat = true) ∧ ∀ q ∈ D k, f q.toNat = true

def Within (A : Nat → List Int) (p n : Nat) : Prop := ∀ k, k < n → ∀ x ∈ A k, 0 ≤ x ∧ x < (p : Int)

theorem FwM.more {A D : Nat → List Int} {p n k : Nat} {s : Int} {f g : Nat → Bool} (h : FwM A D p n s f g) (hA : Within A p n) (hD : Within D p n) (hk : k < n) {x : Int} (hx : x ∈ A k) (hf : f x.toNat = true) : FwM A D p n s (markL f (D k)) (markB g k) := by
  have up : ∀ i, f i = true → markL f (D k) i = true := fun i hi => by unfold markL; rw [hi]; rfl
  have hxr := hA k hk x hx
  refine ⟨up _ h.has, fun i hi hm => ?_, fun j hj hg => ?_⟩
  · unfold markL at hm
    rw [Bool.or_eq_true, decide_eq_true_iff] at hm
    rcases hm with hm | hm
    · exact h.only i hi hm
    · refine .step (p := x) ?_ hk hx hm
      have := h.only x.toNat (by omega) hf
      rwa [show ((x.toNat : Nat) : Int) = x by omega] at this
  · unfold markB at hg
    rw [Bool.or_eq_true, decide_eq_true_iff] at hg
    rcases hg with hg | rfl
    · obtain ⟨⟨y, hy, hfy⟩, h2⟩ := h.tra j hj hg
      exact ⟨⟨y, hy, up _ hfy⟩, fun q hq => up _ (h2 q hq)⟩
    · refine ⟨⟨x, hx, up _ hf⟩, fun q hq => ?_⟩
      unfold markL
      have hq0 := hD j hj q hq
      simp [show max q 0 = q by omega, hq]

/-- Nothing more can be marked by k. -/
def Rest (A : Nat → List Int) (f g : Nat → Bool) (k : Nat) : Prop := g k = true ∨ ∀ x ∈ A k, f x.toNat = false

noncomputable def rchT (A D : Nat → List Int) (n : Nat) (s : Int) (k : Nat) : Bool := (A k).any fun x => rchB A D n s x.toNat

theorem FwM.done {A D : Nat → List Int} {p n : Nat} {s : Int} {f g : Nat → Bool} (h : FwM A D p n s f g) (hA : Within A p n) (hD : Within D p n) (hs : 0 ≤ s ∧ s < (p : Int)) (hr : ∀ k, k < n → Rest A f g k) :
    (∀ i, i < p → f i = rchB A D n s i) ∧ ∀ k, k < n → g k = rchT A D n s k := by
  have h1 : ∀ i, (decide (i < p) && f i) = rchB A D n s i := by
    refine rch_all ?_ ?_ ?_
    · simp [h.has]; omega
    · intro i hi
      rw [Bool.and_eq_true, decide_eq_true_iff] at hi
      exact h.only i hi.1 hi.2
    · intro k hk x hx hf q hq
      rw [Bool.and_eq_true, decide_eq_true_iff] at hf
      have hq' := hD k hk q hq
      rcases hr k hk with hg | hg
      · simp [(h.tra k hk hg).2 q hq]; omega
      · rw [hg x hx] at hf; simp at hf
  have h2 : ∀ i, i < p → f i = rchB A D n s i := fun i hi => by rw [← h1 i]; simp [hi]
  refine ⟨h2, fun k hk => ?_⟩
  rw [Bool.eq_iff_iff]
  unfold rchT
  rw [List.any_eq_true]
  constructor
  · intro hg
    obtain ⟨⟨x, hx, hf⟩, _⟩ := h.tra k hk hg
    have := hA k hk x hx
    exact ⟨x, hx, by rw [← h2 _ (by omega)]; exact hf⟩
  · rintro ⟨x, hx, hf⟩
    have := hA k hk x hx
    rw [← h2 _ (by omega)] at hf
    rcases hr k hk with hg | hg
    · exact hg
    · rw [hg x hx] at hf; simp at hf

theorem FwM.start {A D : Nat → List Int} {p n : Nat} {s : Int} (hs : 0 ≤ s) : FwM A D p n s (markB (fun _ => false) s.toNat) (fun _ => false) := by
  refine ⟨by simp [markB], fun i _ hi => ?_, fun k _ hk => by simp at hk⟩
  simp [markB] at hi
  rw [show ((i : Nat) : Int) = s by omega]; exact .base

/-- What l3Forward and l3Back keep in mind. -/
structure FwInv (w wr : World) (p : Nat) (a : Option Addr) (n c : Nat) (f g : Nat → Bool) : Prop where
  par : wr.heap[w.heap.size]? = some (.cells #[.int .i64 (p : Int), .slice a n c] 26 (0, 0))
  pl : BoolRow wr (w.heap.size + 1) p f
  tr : BoolRow wr (w.heap.size + 1 + 1) n g
  bel : Below w.heap.size w wr

theorem FwInv.grow {w wr v : World} {p n c : Nat} {a : Option Addr} {f g : Nat → Bool} (h : FwInv w wr p a n c f g) (hb : Below wr.heap.size wr v) : FwInv w v p a n c f g :=
  ⟨keep h.par hb, h.pl.grow hb, h.tr.grow hb, h.bel.trans (hb.mono h.bel.size)⟩

theorem FwInv.setP {w wr : World} {p n c i : Nat} {a : Option Addr} {f g : Nat → Bool} (h : FwInv w wr p a n c f g) (hi : i < p) : FwInv w (wr.setCell ⟨w.heap.size + 1, i, none⟩ (.bool true)) p a n c (markB f i) g :=
  ⟨(Below.heap_setCell _ _ _ _ (by simp)).trans h.par, h.pl.set hi, h.tr.other (by omega) _, h.bel.setCell (by simp) _⟩

theorem FwInv.setT {w wr : World} {p n c i : Nat} {a : Option Addr} {f g : Nat → Bool} (h : FwInv w wr p a n c f g) (hi : i < n) : FwInv w (wr.setCell ⟨w.heap.size + 1 + 1, i, none⟩ (.bool true)) p a n c f (markB g i) :=
  ⟨(Below.heap_setCell _ _ _ _ (by simp; omega)).trans h.par, h.pl.other (by omega) _, h.tr.set hi, h.bel.setCell (by simp; omega) _⟩

theorem made_boolS (w : World) (n s : Nat) (hs : s < n) : BoolRow (w.alloc (.cells ((madeCells #[.bool false] n).setIfInBounds s (.bool true)) 4)) w.heap.size n (markB (fun _ => false) s) := by
  refine ⟨_, heap_alloc_new _ _, by simp [size_madeCells], fun i hi => ?_⟩
  rw [Array.getElem?_setIfInBounds]
  unfold markB
  by_cases e : s = i
  · subst e; simp [size_madeCells, hs]
  · rw [if_neg e]; simp [madeCells, hi, Nat.mod_one]; omega

theorem FwInv.start (w : World) (p n c s : Nat) (a : Option Addr) (hs : s < p) : FwInv w (((w.alloc (.cells #[.int .i64 (p : Int), .slice a n c] 26)).alloc (.cells ((madeCells #[.bool false] p).setIfInBounds s (.bool true)) 4)).alloc (.cells (madeCells #[.bool false] n) 4)) p a n c (markB (fun _ => false) s) (fun _ => false) := by
  have h1 := made_boolS (w.alloc (.cells #[.int .i64 (p : Int), .slice a n c] 26)) p s hs
  have h2 := made_bool ((w.alloc (.cells #[.int .i64 (p : Int), .slice a n c] 26)).alloc (.cells ((madeCells #[.bool false] p).setIfInBounds s (.bool true)) 4)) n
  rw [show (w.alloc (.cells #[.int .i64 (p : Int), .slice a n c] 26)).heap.size = w.heap.size + 1 by simp] at h1
  rw [show ((w.alloc (.cells #[.int .i64 (p : Int), .slice a n c] 26)).alloc (.cells ((madeCells #[.bool false] p).setIfInBounds s (.bool true)) 4)).heap.size = w.heap.size + 1 + 1 by simp] at h2
  refine ⟨?_, h1.grow (below_al _ _), h2, ?_⟩
  · exact keep (keep (heap_alloc_new _ _) (below_al _ _)) (below_al _ _)
  · exact ((below_al w _).alloc (by simp) _).alloc (by simp; omega) _

/-- How l3Forward and l3Back end. -/
def FwEnd (F : Nat → Bool) (G : Nat → Bool) (p n : Nat) (w : World) (e : Ending) (w' : World) : Prop :=
  ∃ b1 b2, e = .returned (.tuple #[.slice (some ⟨b1, 0, none⟩) p p, .slice (some ⟨b2, 0, none⟩) n n]) ∧ BoolRow w' b1 p F ∧ BoolRow w' b2 n G ∧ Below w.heap.size w w'

theorem BoolRow.same {w : World} {b n : Nat} {f g : Nat → Bool} (h : BoolRow w b n f) (e : ∀ i, i < n → f i = g i) : BoolRow w b n g := by
  obtain ⟨C, h1, h2, h3⟩ := h
  exact ⟨C, h1, h2, fun i hi => by rw [← e i hi]; exact h3 i hi⟩
end Go.Proofs.Ytbhhpfiolombcaa


/- l3Forward and l3Back of the specification. -/
namespace Go.Proofs.Ytbhhpfiolombcaa
open Go.RowKit
set_option maxRecDepth 10000

theorem ret_2b {b1 b2 p n : Nat} {F G : Nat → Bool} {w w' : World} (h1 : BoolRow w' b1 p F) (h2 : BoolRow w' b2 n G) (hb : Below w.heap.size w w') : FwEnd F G p n w (.returned (.tuple #[.slice (some ⟨b1, 0, none⟩) p p, .slice (some ⟨b2, 0, none⟩) n n])) w' :=
  ⟨b1, b2, rfl, h1, h2, hb⟩

def moreOf : Value → Nat | .bool true => 1 | _ => 0

theorem any_take {f : Nat → Bool} {xs : List Int} {k : Nat} {x : Int} (h : xs[k]? = some x) : (xs.take (k + 1)).any (fun x => f x.toNat) = ((xs.take k).any (fun x => f x.toNat) || f x.toNat) := by
  rw [List.take_add_one, h, List.any_append]; simp

set_option maxHeartbeats 8000000 in
theorem forward_any (A D : Nat → List Int) (p s : Nat) (a : Option Addr) (n c : Nat) (L : List (List Int)) (w : World) (h : Lists w a (3 * n) L) (hn : n ≤ 24) (hp : p ≤ 16) (hs : s < p) (hz : sizeN n L ≤ 1048576)
    (hA : Within A p n) (hD : Within D p n) (eA : ∀ k, A k = L.getD (3 * k) []) (eD : ∀ k, D k = L.getD (3 * k + 1) []) :
    Calls Try.prog 42 #[.agg #[.int .i64 (p : Int), .slice a n c], .int .i64 (s : Int)] w fun e w' => FwEnd (rchB A D n (s : Int)) (rchT A D n (s : Int)) p n w e w' := by
  have hmk1 := run_make_many (P := Try.prog) 83 4 _ 1 1 Try.underlying83 Try.info4 .i64 .i64 p (by omega) (by omega)
  have hmk2 := run_make_many (P := Try.prog) 83 4 _ 1 1 Try.underlying83 Try.info4 .i64 .i64 n (by omega) (by omega)
  simp only [Value.cells, Nat.mul_one] at hmk1 hmk2
  have HL := hide h
  have HA := hide hA
  have HD := hide hD
  have EA := hide eA
  have ED := hide eD
  have HI1 := hide (FwInv.start w p n c s a hs)
  have HM0 := hide (FwM.start (A := A) (D := D) (p := p) (n := n) (s := (s : Int)) (by omega))
  have hz' : n + sizeL L ≤ 1048576 := hz
  clear h hA hD eA eD hz
  have hat : (madeCells #[.bool false] p)[s]? = some (.bool false) := by simp [madeCells, hs, Nat.mod_one]
  go_enter Try.func42, Try.ntmps42
  go_wp2_with fail
  obtain ⟨V, hV⟩ : ∃ V, Hid (((w.alloc (.cells #[.int .i64 (p : Int), .slice a n c] 26)).alloc (.cells ((madeCells #[.bool false] p).setIfInBounds s (.bool true)) 4)).alloc (.cells (madeCells #[.bool false] n) 4) = V) := ⟨_, rfl⟩
  rw [hV.out] at HI1 ⊢
  clear hmk1 hmk2 hat hV
  go_loopw [8] (fun m wr => ∃ (b : Bool) (f g : Nat → Bool), m = .bool b ∧ Hid (FwInv w wr p a n c f g) ∧ Hid (FwM A D p n (s : Int) f g) ∧ Hid (b = false → ∀ k, k < n → Rest A f g k)) (fun m wr => 2 * (n - cntW wr (w.heap.size + 1 + 1) n) + moreOf m)
  case atStart => exact ⟨true, _, _, rfl, HI1, HM0, fun e => by simp at e⟩
  case round =>
    obtain ⟨b, f, g, rfl, hin, hm, hr⟩ := hrel
    clear HI1 HM0
    cases b
    · have HF := hide (hm.out.done HA.out HD.out ⟨by omega, by omega⟩ (hr.out rfl))
      have HE := hide (ret_2b (hin.out.pl.same HF.out.1) (hin.out.tr.same HF.out.2) hin.out.bel)
      go_wp2_with fail
      go_ret2
      exact HE.out
    have HCNT := hide (cntW_eq hin.out.tr)
    obtain ⟨hc0, hc1⟩ := cells2 hin.out.par
    generalize wr = v0 at *
    go_wp2_with fail
    clear hc0 hc1 hr
    go_loopw [8, 30] (fun m i wr => ∃ (b : Bool) (k : Nat) (f' g' : Nat → Bool), k ≤ n ∧ i = .int .i64 k ∧ m = .bool b ∧ Hid (FwInv w wr p a n c f' g') ∧ Hid (FwM A D p n (s : Int) f' g') ∧ Hid (b = false → cntB g n = cntB g' n ∧ ∀ j, j < k → Rest A f' g' j) ∧ Hid (b = true → cntB g n < cntB g' n)) (fun _ i _ => n - (intOf i).toNat)
    case atStart => exact ⟨false, 0, f, g, Nat.zero_le _, rfl, rfl, hin, hm, fun _ => ⟨rfl, fun j hj => absurd hj (by omega)⟩, fun e => by simp at e⟩
    case round =>
      clear hin hm
      obtain ⟨b, k, f', g', hk, rfl, rfl, hin, hm, hr0, hr1⟩ := hrel
      by_cases hlt : k < n
      rotate_left
      · have hk' : k = n := by omega
        subst hk'
        have HC2 := hide (cntW_eq hin.out.tr)
        have hle := cntB_le g' k
        have hle0 := cntB_le g k
        go_wp2_with fail
        go_roundw
        case rel => exact ⟨b, f', g', rfl, hin, hm, fun e => (hr0.out e).2⟩
        case measure =>
          rw [HCNT.out, HC2.out]
          cases b
          · have := (hr0.out rfl).1; simp [moreOf]; omega
          · have := hr1.out rfl; simp [moreOf]; omega
      obtain ⟨b0, off, a0, n0, c0, a1, n1, c1, a2, n2, c2, rfl, hb, hrg, m0, m1, m2, r0, r1, r2⟩ := HL.out.tri hlt
      obtain ⟨hw0, hw1, hw2⟩ := rangeAt_cells3 hrg
      have hc0 := (hin.out.bel.cell (p := ⟨b0, off + k * 3, none⟩) hb).trans hw0
      have hc1 := (hin.out.bel.cell (p := ⟨b0, off + k * 3 + 1, none⟩) hb).trans hw1
      have hc2 := (hin.out.bel.cell (p := ⟨b0, off + k * 3 + 2, none⟩) hb).trans hw2
      have hbw : b0 < wr.heap.size := Nat.lt_of_lt_of_le hb hin.out.bel.size
      have hvl := hin.out.tr.lt
      have hln := len_le L (3 * k)
      have hln2 := len_le L (3 * k + 1)
      rw [← EA.out k] at hln r0
      rw [← ED.out k] at hln2 r1
      have hA1 := below_al wr (.cells #[.slice a0 n0 c0, .slice a1 n1 c1, .slice a2 n2 c2] 52)
      have HI1 := hide (hin.out.grow hA1)
      have RA := hide r0
      have RD := hide r1
      have q0 : n0 ≤ 1048576 := by have := r0.1; omega
      have q1 : n1 ≤ 1048576 := by have := r1.1; omega
      have HX := hide (heap_alloc_new wr (.cells #[.slice a0 n0 c0, .slice a1 n1 c1, .slice a2 n2 c2] 52))
      clear hin hrg r0 r1 r2 m0 m1 m2 hln hln2 hA1 hb hw0 hw1 hw2
      generalize wr = v1 at *
      go_wp2_with fail
      obtain ⟨v2, hv2⟩ : ∃ v, Hid (v1.alloc (.cells #[.slice a0 n0 c0, .slice a1 n1 c1, .slice a2 n2 c2] 52) = v) := ⟨_, rfl⟩
      rw [hv2.out] at HI1 HX ⊢
      clear hv2 hc0 hc1 hc2
      go_loop [11, 38] (fun cm i => ∃ j : Nat, j ≤ n0 ∧ i = .int .i64 j ∧ cm = .bool (((A k).take j).any (fun x => f' x.toNat))) (fun _ i => n0 - (intOf i).toNat)
      case atStart => exact ⟨0, Nat.zero_le _, rfl, rfl⟩
      case round =>
        obtain ⟨j, hj, rfl, rfl⟩ := hrel
        by_cases hjl : j < n0
        · obtain ⟨b1, o1, x, rfl, hl1, hc1, H1⟩ := (RA.out.below HI1.out.bel).at hjl
          obtain ⟨hx0, hx1⟩ := HA.out k hlt x (List.mem_of_getElem? H1.out)
          obtain ⟨q, rfl⟩ : ∃ q : Nat, x = (q : Int) := ⟨x.toNat, by omega⟩
          have hqp : q < p := by omega
          obtain ⟨hcq, hfq⟩ := HI1.out.pl.cell hqp
          have HT := hide (any_take (f := f') H1.out)
          rw [Int.toNat_natCast] at HT
          clear H1 hx0 hx1 hfq
          cases hcm : ((A k).take j).any (fun x => f' x.toNat)
          · rw [hcm, Bool.false_or] at HT
            go_wp2_with fail
            go_round
            case rel => exact ⟨j + 1, by omega, by go_num, by rw [HT.out]⟩
            case measure => simp [intOf]; omega
          · rw [hcm, Bool.true_or] at HT
            go_wp2_with fail
            go_round
            case rel => exact ⟨j + 1, by omega, by go_num, by rw [HT.out]⟩
            case measure => simp [intOf]; omega
        have hj' : j = n0 := by omega
        subst hj'
        rw [List.take_of_length_le (by have := RA.out.1; omega)]
        obtain ⟨hck, hfk⟩ := HI1.out.tr.cell hlt
        have HI2 := hide (HI1.out.setT hlt)
        cases hcm : (A k).any (fun x => f' x.toNat)
        · have HRE : Hid (b = false → cntB g n = cntB g' n ∧ ∀ j, j < k + 1 → Rest A f' g' j) := fun e => ⟨(hr0.out e).1, fun j hj => if h : j < k then (hr0.out e).2 j h else (by rw [show j = k by omega]; exact .inr fun x hx => by have := List.any_eq_false.mp hcm x hx; simpa using this)⟩
          clear hr0 hcm HI2
          go_wp2_with fail
          go_roundw
          case rel => exact ⟨b, k + 1, f', g', by omega, by go_num, rfl, HI1, hm, HRE, hr1⟩
          case measure => simp [intOf]; omega
        cases hgk : g' k
        rotate_left
        · have HRE : Hid (b = false → cntB g n = cntB g' n ∧ ∀ j, j < k + 1 → Rest A f' g' j) := fun e => ⟨(hr0.out e).1, fun j hj => if h : j < k then (hr0.out e).2 j h else (by rw [show j = k by omega]; exact .inl hgk)⟩
          rw [hgk] at hck
          clear hr0 hcm HI2 hgk
          go_wp2_with fail
          go_roundw
          case rel => exact ⟨b, k + 1, f', g', by omega, by go_num, rfl, HI1, hm, HRE, hr1⟩
          case measure => simp [intOf]; omega
        have HM2 : Hid (FwM A D p n (s : Int) (markL f' (D k)) (markB g' k)) := by
          obtain ⟨x, hx, hf⟩ := List.any_eq_true.mp hcm
          exact hm.out.more HA.out HD.out hlt hx hf
        have HC2 : Hid (cntB g n < cntB (markB g' k) n) := by
          show _ < _
          have h1 := cntB_mark hlt hgk
          cases b
          · have := (hr0.out rfl).1; omega
          · have := hr1.out rfl; omega
        rw [hgk] at hck
        have hXc := cell_of_row v2 _ 0 _ _ _ HX.out
        have hXd := cell_of_row v2 _ 1 _ _ _ HX.out
        have hXe := cell_of_row v2 _ 2 _ _ _ HX.out
        simp at hXc hXd hXe
        clear hr0 hr1 hcm hgk hm HI1
        go_wp2_with fail
        clear hXc hXd hXe HX hck hfk
        go_loopw [64] (fun i wr => ∃ j : Nat, j ≤ n1 ∧ i = .int .i64 j ∧ Hid (FwInv w wr p (some ⟨b0, off, none⟩) n c (markL f' ((D k).take j)) (markB g' k))) (fun i _ => n1 - (intOf i).toNat)
        case atStart => exact ⟨0, Nat.zero_le _, rfl, by rw [List.take_zero, markL_nil]; exact HI2⟩
        case round =>
          obtain ⟨j, hj, rfl, hin⟩ := hrel
          by_cases hjl : j < n1
          · obtain ⟨b1, o1, x, rfl, hl1, hc1, H1⟩ := (RD.out.below hin.out.bel).at hjl
            obtain ⟨hx0, hx1⟩ := HD.out k hlt x (List.mem_of_getElem? H1.out)
            obtain ⟨q, rfl⟩ : ∃ q : Nat, x = (q : Int) := ⟨x.toNat, by omega⟩
            have hqp : q < p := by omega
            obtain ⟨hcq, hfq⟩ := hin.out.pl.cell hqp
            have HI3 := hide (hin.out.setP hqp)
            rw [markL_snoc, show (D k).take j ++ [(q : Int)] = (D k).take (j + 1) by rw [List.take_add_one, H1.out]; rfl] at HI3
            clear H1 hx0 hx1 hin
            go_wp2_with fail
            go_roundw
            case rel => exact ⟨j + 1, by omega, by go_num, HI3⟩
            case measure => simp [intOf]; omega
          have hj' : j = n1 := by omega
          subst hj'
          rw [List.take_of_length_le (by have := RD.out.1; omega)] at hin
          go_wp2_with fail
          go_roundw
          case rel => exact ⟨true, k + 1, _, _, by omega, by go_num, rfl, hin, HM2, (fun e => by simp at e), fun _ => HC2.out⟩
          case measure => simp [intOf]; omega

set_option maxHeartbeats 8000000 in
theorem back_any (A D : Nat → List Int) (p s : Nat) (a : Option Addr) (n c : Nat) (L : List (List Int)) (w : World) (h : Lists w a (3 * n) L) (hn : n ≤ 24) (hp : p ≤ 16) (hs : s < p) (hz : sizeN n L ≤ 1048576)
    (hA : Within A p n) (hD : Within D p n) (eA : ∀ k, A k = L.getD (3 * k + 1) []) (eD : ∀ k, D k = L.getD (3 * k) []) :
    Calls Try.prog 43 #[.agg #[.int .i64 (p : Int), .slice a n c], .int .i64 (s : Int)] w fun e w' => FwEnd (rchB A D n (s : Int)) (rchT A D n (s : Int)) p n w e w' := by
  have hmk1 := run_make_many (P := Try.prog) 83 4 _ 1 1 Try.underlying83 Try.info4 .i64 .i64 p (by omega) (by omega)
  have hmk2 := run_make_many (P := Try.prog) 83 4 _ 1 1 Try.underlying83 Try.info4 .i64 .i64 n (by omega) (by omega)
  simp only [Value.cells, Nat.mul_one] at hmk1 hmk2
  have HL := hide h
  have HA := hide hA
  have HD := hide hD
  have EA := hide eA
  have ED := hide eD
  have HI1 := hide (FwInv.start w p n c s a hs)
  have HM0 := hide (FwM.start (A := A) (D := D) (p := p) (n := n) (s := (s : Int)) (by omega))
  have hz' : n + sizeL L ≤ 1048576 := hz
  clear h hA hD eA eD hz
  have hat : (madeCells #[.bool false] p)[s]? = some (.bool false) := by simp [madeCells, hs, Nat.mod_one]
  go_enter Try.func43, Try.ntmps43
  go_wp2_with fail
  obtain ⟨V, hV⟩ : ∃ V, Hid (((w.alloc (.cells #[.int .i64 (p : Int), .slice a n c] 26)).alloc (.cells ((madeCells #[.bool false] p).setIfInBounds s (.bool true)) 4)).alloc (.cells (madeCells #[.bool false] n) 4) = V) := ⟨_, rfl⟩
  rw [hV.out] at HI1 ⊢
  clear hmk1 hmk2 hat hV
  go_loopw [8] (fun m wr => ∃ (b : Bool) (f g : Nat → Bool), m = .bool b ∧ Hid (FwInv w wr p a n c f g) ∧ Hid (FwM A D p n (s : Int) f g) ∧ Hid (b = false → ∀ k, k < n → Rest A f g k)) (fun m wr => 2 * (n - cntW wr (w.heap.size + 1 + 1) n) + moreOf m)
  case atStart => exact ⟨true, _, _, rfl, HI1, HM0, fun e => by simp at e⟩
  case round =>
    obtain ⟨b, f, g, rfl, hin, hm, hr⟩ := hrel
    clear HI1 HM0
    cases b
    · have HF := hide (hm.out.done HA.out HD.out ⟨by omega, by omega⟩ (hr.out rfl))
      have HE := hide (ret_2b (hin.out.pl.same HF.out.1) (hin.out.tr.same HF.out.2) hin.out.bel)
      go_wp2_with fail
      go_ret2
      exact HE.out
    have HCNT := hide (cntW_eq hin.out.tr)
    obtain ⟨hc0, hc1⟩ := cells2 hin.out.par
    generalize wr = v0 at *
    go_wp2_with fail
    clear hc0 hc1 hr
    go_loopw [8, 30] (fun m i wr => ∃ (b : Bool) (k : Nat) (f' g' : Nat → Bool), k ≤ n ∧ i = .int .i64 k ∧ m = .bool b ∧ Hid (FwInv w wr p a n c f' g') ∧ Hid (FwM A D p n (s : Int) f' g') ∧ Hid (b = false → cntB g n = cntB g' n ∧ ∀ j, j < k → Rest A f' g' j) ∧ Hid (b = true → cntB g n < cntB g' n)) (fun _ i _ => n - (intOf i).toNat)
    case atStart => exact ⟨false, 0, f, g, Nat.zero_le _, rfl, rfl, hin, hm, fun _ => ⟨rfl, fun j hj => absurd hj (by omega)⟩, fun e => by simp at e⟩
    case round =>
      clear hin hm
      obtain ⟨b, k, f', g', hk, rfl, rfl, hin, hm, hr0, hr1⟩ := hrel
      by_cases hlt : k < n
      rotate_left
      · have hk' : k = n := by omega
        subst hk'
        have HC2 := hide (cntW_eq hin.out.tr)
        have hle := cntB_le g' k
        have hle0 := cntB_le g k
        go_wp2_with fail
        go_roundw
        case rel => exact ⟨b, f', g', rfl, hin, hm, fun e => (hr0.out e).2⟩
        case measure =>
          rw [HCNT.out, HC2.out]
          cases b
          · have := (hr0.out rfl).1; simp [moreOf]; omega
          · have := hr1.out rfl; simp [moreOf]; omega
      obtain ⟨b0, off, a0, n0, c0, a1, n1, c1, a2, n2, c2, rfl, hb, hrg, m0, m1, m2, r0, r1, r2⟩ := HL.out.tri hlt
      obtain ⟨hw0, hw1, hw2⟩ := rangeAt_cells3 hrg
      have hc0 := (hin.out.bel.cell (p := ⟨b0, off + k * 3, none⟩) hb).trans hw0
      have hc1 := (hin.out.bel.cell (p := ⟨b0, off + k * 3 + 1, none⟩) hb).trans hw1
      have hc2 := (hin.out.bel.cell (p := ⟨b0, off + k * 3 + 2, none⟩) hb).trans hw2
      have hbw : b0 < wr.heap.size := Nat.lt_of_lt_of_le hb hin.out.bel.size
      have hvl := hin.out.tr.lt
      have hln := len_le L (3 * k + 1)
      have hln2 := len_le L (3 * k)
      rw [← EA.out k] at hln r1
      rw [← ED.out k] at hln2 r0
      have hA1 := below_al wr (.cells #[.slice a0 n0 c0, .slice a1 n1 c1, .slice a2 n2 c2] 52)
      have HI1 := hide (hin.out.grow hA1)
      have RA := hide r1
      have RD := hide r0
      have q0 : n1 ≤ 1048576 := by have := r1.1; omega
      have q1 : n0 ≤ 1048576 := by have := r0.1; omega
      have HX := hide (heap_alloc_new wr (.cells #[.slice a0 n0 c0, .slice a1 n1 c1, .slice a2 n2 c2] 52))
      clear hin hrg r0 r1 r2 m0 m1 m2 hln hln2 hA1 hb hw0 hw1 hw2
      generalize wr = v1 at *
      go_wp2_with fail
      obtain ⟨v2, hv2⟩ : ∃ v, Hid (v1.alloc (.cells #[.slice a0 n0 c0, .slice a1 n1 c1, .slice a2 n2 c2] 52) = v) := ⟨_, rfl⟩
      rw [hv2.out] at HI1 HX ⊢
      clear hv2 hc0 hc1 hc2
      go_loop [11, 38] (fun cm i => ∃ j : Nat, j ≤ n1 ∧ i = .int .i64 j ∧ cm = .bool (((A k).take j).any (fun x => f' x.toNat))) (fun _ i => n1 - (intOf i).toNat)
      case atStart => exact ⟨0, Nat.zero_le _, rfl, rfl⟩
      case round =>
        obtain ⟨j, hj, rfl, rfl⟩ := hrel
        by_cases hjl : j < n1
        · obtain ⟨b1, o1, x, rfl, hl1, hc1, H1⟩ := (RA.out.below HI1.out.bel).at hjl
          obtain ⟨hx0, hx1⟩ := HA.out k hlt x (List.mem_of_getElem? H1.out)
          obtain ⟨q, rfl⟩ : ∃ q : Nat, x = (q : Int) := ⟨x.toNat, by omega⟩
          have hqp : q < p := by omega
          obtain ⟨hcq, hfq⟩ := HI1.out.pl.cell hqp
          have HT := hide (any_take (f := f') H1.out)
          rw [Int.toNat_natCast] at HT
          clear H1 hx0 hx1 hfq
          cases hcm : ((A k).take j).any (fun x => f' x.toNat)
          · rw [hcm, Bool.false_or] at HT
            go_wp2_with fail
            go_round
            case rel => exact ⟨j + 1, by omega, by go_num, by rw [HT.out]⟩
            case measure => simp [intOf]; omega
          · rw [hcm, Bool.true_or] at HT
            go_wp2_with fail
            go_round
            case rel => exact ⟨j + 1, by omega, by go_num, by rw [HT.out]⟩
            case measure => simp [intOf]; omega
        have hj' : j = n1 := by omega
        subst hj'
        rw [List.take_of_length_le (by have := RA.out.1; omega)]
        obtain ⟨hck, hfk⟩ := HI1.out.tr.cell hlt
        have HI2 := hide (HI1.out.setT hlt)
        cases hcm : (A k).any (fun x => f' x.toNat)
        · have HRE : Hid (b = false → cntB g n = cntB g' n ∧ ∀ j, j < k + 1 → Rest A f' g' j) := fun e => ⟨(hr0.out e).1, fun j hj => if h : j < k then (hr0.out e).2 j h else (by rw [show j = k by omega]; exact .inr fun x hx => by have := List.any_eq_false.mp hcm x hx; simpa using this)⟩
          clear hr0 hcm HI2
          go_wp2_with fail
          go_roundw
          case rel => exact ⟨b, k + 1, f', g', by omega, by go_num, rfl, HI1, hm, HRE, hr1⟩
          case measure => simp [intOf]; omega
        cases hgk : g' k
        rotate_left
        · have HRE : Hid (b = false → cntB g n = cntB g' n ∧ ∀ j, j < k + 1 → Rest A f' g' j) := fun e => ⟨(hr0.out e).1, fun j hj => if h : j < k then (hr0.out e).2 j h else (by rw [show j = k by omega]; exact .inl hgk)⟩
          rw [hgk] at hck
          clear hr0 hcm HI2 hgk
          go_wp2_with fail
          go_roundw
          case rel => exact ⟨b, k + 1, f', g', by omega, by go_num, rfl, HI1, hm, HRE, hr1⟩
          case measure => simp [intOf]; omega
        have HM2 : Hid (FwM A D p n (s : Int) (markL f' (D k)) (markB g' k)) := by
          obtain ⟨x, hx, hf⟩ := List.any_eq_true.mp hcm
          exact hm.out.more HA.out HD.out hlt hx hf
        have HC2 : Hid (cntB g n < cntB (markB g' k) n) := by
          show _ < _
          have h1 := cntB_mark hlt hgk
          cases b
          · have := (hr0.out rfl).1; omega
          · have := hr1.out rfl; omega
        rw [hgk] at hck
        have hXc := cell_of_row v2 _ 0 _ _ _ HX.out
        have hXd := cell_of_row v2 _ 1 _ _ _ HX.out
        have hXe := cell_of_row v2 _ 2 _ _ _ HX.out
        simp at hXc hXd hXe
        clear hr0 hr1 hcm hgk hm HI1
        go_wp2_with fail
        clear hXc hXd hXe HX hck hfk
        go_loopw [64] (fun i wr => ∃ j : Nat, j ≤ n0 ∧ i = .int .i64 j ∧ Hid (FwInv w wr p (some ⟨b0, off, none⟩) n c (markL f' ((D k).take j)) (markB g' k))) (fun i _ => n0 - (intOf i).toNat)
        case atStart => exact ⟨0, Nat.zero_le _, rfl, by rw [List.take_zero, markL_nil]; exact HI2⟩
        case round =>
          obtain ⟨j, hj, rfl, hin⟩ := hrel
          by_cases hjl : j < n0
          · obtain ⟨b1, o1, x, rfl, hl1, hc1, H1⟩ := (RD.out.below hin.out.bel).at hjl
            obtain ⟨hx0, hx1⟩ := HD.out k hlt x (List.mem_of_getElem? H1.out)
            obtain ⟨q, rfl⟩ : ∃ q : Nat, x = (q : Int) := ⟨x.toNat, by omega⟩
            have hqp : q < p := by omega
            obtain ⟨hcq, hfq⟩ := hin.out.pl.cell hqp
            have HI3 := hide (hin.out.setP hqp)
            rw [markL_snoc, show (D k).take j ++ [(q : Int)] = (D k).take (j + 1) by rw [List.take_add_one, H1.out]; rfl] at HI3
            clear H1 hx0 hx1 hin
            go_wp2_with fail
            go_roundw
            case rel => exact ⟨j + 1, by omega, by go_num, HI3⟩
            case measure => simp [intOf]; omega
          have hj' : j = n0 := by omega
          subst hj'
          rw [List.take_of_length_le (by have := RD.out.1; omega)] at hin
          go_wp2_with fail
          go_roundw
          case rel => exact ⟨true, k + 1, _, _, by omega, by go_num, rfl, hin, HM2, (fun e => by simp at e), fun _ => HC2.out⟩
          case measure => simp [intOf]; omega

end Go.Proofs.Ytbhhpfiolombcaa


/- l3Both and OnWay of the specification. -/
namespace Go.Proofs.Ytbhhpfiolombcaa
open Go.RowKit
set_option maxRecDepth 10000

/-- How a function that tells numbers ends. -/
def Nums2End (f : Nat → Bool) (n : Nat) (w : World) (e : Ending) (w' : World) : Prop :=
  ∃ v m, e = .returned v ∧ w'.ownsRow w.heap.size 3 1 v m ((nums2 f n).map (Value.int .i64)) ∧ Below w.heap.size w w'

theorem own_grow2 {B : Nat} {w w' : World} {v : Value} {n : Nat} {l : List Value} (hown : w.ownsRow B 3 1 v n l) (hb : Below w.heap.size w w') : w'.ownsRow B 3 1 v n l := by
  refine ⟨hown.1, ?_⟩
  rcases hown.2 with h0 | ⟨g, cap, cur, e, h1, h2, h3⟩
  · exact .inl h0
  · exact .inr ⟨g, cap, cur, e, h1, (hb.block g (Array.getElem?_eq_some_iff.mp h2).1).trans h2, h3⟩

set_option maxHeartbeats 1000000 in
theorem both_any (F G : Nat → Bool) (b1 b2 n c1 m2 c2 : Nat) (w : World) (h1 : BoolRow w b1 n F) (h2 : BoolRow w b2 n G) (hm : m2 = n) (hn : n ≤ 24) :
    Calls Try.prog 44 #[.slice (some ⟨b1, 0, none⟩) n c1, .slice (some ⟨b2, 0, none⟩) m2 c2] w fun e w' => Nums2End (fun i => F i && G i) n w e w' := by
  subst hm
  have H1 := hide h1
  have H2 := hide h2
  obtain ⟨i0, hi, hz0, hz1, hz2⟩ := info_split2 Try.info3
  clear h1 h2
  go_enter Try.func44, Try.ntmps44
  go_wp2_with fail
  go_loopw [5, 9] (fun o i wr => ∃ k m : Nat, k ≤ m2 ∧ i = .int .i64 k ∧ Hid (m ≤ k) ∧ Hid (wr.ownsRow w.heap.size 3 1 o m ((nums2 (fun i => F i && G i) k).map (Value.int .i64))) ∧ Hid (Below w.heap.size w wr)) (fun _ i _ => m2 - (intOf i).toNat)
  case atStart => exact ⟨0, 0, Nat.zero_le _, rfl, Nat.le_refl _, World.ownsRow_nil _ _ _ _, Below.refl _ _⟩
  case round =>
    obtain ⟨k, m, hk, rfl, hmk, hown, hbw⟩ := hrel
    by_cases hlt : k < m2
    rotate_left
    · have hk' : k = m2 := by omega
      subst hk'
      go_wp2_with fail
      go_ret
      exact ⟨_, m, rfl, hown.out, hbw.out⟩
    obtain ⟨hc1, _⟩ := (H1.out.grow hbw.out).cell hlt
    obtain ⟨hc2, _⟩ := (H2.out.grow hbw.out).cell hlt
    cases hF : F k
    · have HN := hide (nums2_no (f := fun i => F i && G i) (k := k) (by simp [hF]))
      rw [hF] at hc1
      clear hF
      go_wp2_with fail
      go_roundw
      case rel => exact ⟨k + 1, m, by omega, by go_num, Nat.le_succ_of_le hmk.out, by rw [HN.out]; exact hown, hbw⟩
      case measure => simp [intOf]; omega
    cases hG : G k
    · have HN := hide (nums2_no (f := fun i => F i && G i) (k := k) (by simp [hG]))
      rw [hF] at hc1
      rw [hG] at hc2
      clear hF hG
      go_wp2_with fail
      go_roundw
      case rel => exact ⟨k + 1, m, by omega, by go_num, Nat.le_succ_of_le hmk.out, by rw [HN.out]; exact hown, hbw⟩
      case measure => simp [intOf]; omega
    have HN := hide (nums2_yes (f := fun i => F i && G i) (k := k) (by simp [hF, hG]))
    rw [hF] at hc1
    rw [hG] at hc2
    clear hF hG
    have hA2 := below_al wr (.cells #[.int .i64 (k : Int)] 3)
    have HO2 := hide (hown.out.alloc (.cells #[.int .i64 (k : Int)] 3))
    have HB2 := hide (hbw.out.trans (hA2.mono hbw.out.size))
    have HCE : Hid (∀ j u, ([.int .i64 (k : Int)] : List Value)[j]? = some u → (wr.alloc (.cells #[.int .i64 (k : Int)] 3)).cell? ((⟨wr.heap.size, 0, none⟩ : Addr).add j) = some u) := one_cell2 wr _
    have H1c : Hid (∀ u ∈ ([.int .i64 (k : Int)] : List Value), u.oneCell' = true) := fun u hu => by simp at hu; subst hu; rfl
    have HX := hide (show m + 1 ≤ maxLen by have := hmk.out; unfold maxLen; omega)
    have HY := hide (show (m + 1) * 8 ≤ 140737488355328 by have := hmk.out; omega)
    have HZ := hide HB2.out.size
    clear hA2 hown
    go_wp2_with (refine wpList_append_own _ rfl (.tmp 22) (.tmp 24) 33 rfl w.heap.size 3 i0 (.int .i64 0) 1 8 Try.underlying33 hi hz0 hz1 hz2 rfl (by decide) u5 m _ rfl HO2.out ⟨wr.heap.size, 0, none⟩ 1 1 [.int .i64 (k : Int)] rfl rfl HCE.out H1c.out HX.out HY.out HZ.out ?_; intro v' W' r1 r2 r3)
    have HR1 : Hid (W'.ownsRow w.heap.size 3 1 v' (m + 1) ((nums2 (fun i => F i && G i) (k + 1)).map (Value.int .i64))) := by
      show World.ownsRow _ _ _ _ _ _ _
      rw [HN.out, List.map_append]; exact r1
    have HB3 := hide (own_below2 HO2.out r2 HB2.out HB2.out.size (Nat.le_refl _))
    clear r1 r2 r3 hc1 hc2
    go_wp2_with fail
    go_roundw
    case rel => exact ⟨k + 1, m + 1, by omega, by go_num, Nat.succ_le_succ hmk.out, HR1, HB3⟩
    case measure => simp [intOf]; omega

/-- Which places and which transitions are on a way. -/
noncomputable def plB (n : Nat) (L : List (List Int)) (s t : Int) (i : Nat) : Bool := rchB (inL L) (outL L) n s i && rchB (outL L) (inL L) n t i
noncomputable def trB (n : Nat) (L : List (List Int)) (s t : Int) (k : Nat) : Bool := rchT (inL L) (outL L) n s k && rchT (outL L) (inL L) n t k

noncomputable def wayP (p : Int) (n : Nat) (L : List (List Int)) (s t : Int) : List Int := if wayOk p n L s t then nums2 (plB n L s t) p.toNat else []
noncomputable def wayT (p : Int) (n : Nat) (L : List (List Int)) (s t : Int) : List Int := if wayOk p n L s t then nums2 (trB n L s t) n else []

/-- How the specification's OnWay ends. -/
def OwEnd (g : Bool) (xs ys : List Int) (w : World) (e : Ending) (w' : World) : Prop :=
  ∃ a1 n1 c1 a2 n2 c2, e = .returned (.tuple #[.slice a1 n1 c1, .slice a2 n2 c2, .bool g]) ∧ Row w' a1 n1 xs ∧ Row w' a2 n2 ys ∧ Below w.heap.size w w'

theorem owEnd_no {p : Int} {n : Nat} {L : List (List Int)} {s t : Int} {w w' : World} (h : wayOk p n L s t = false) (hb : Below w.heap.size w w') :
    OwEnd (wayOk p n L s t) (wayP p n L s t) (wayT p n L s t) w (.returned (.tuple #[.slice none 0 0, .slice none 0 0, .bool false])) w' :=
  ⟨none, 0, 0, none, 0, 0, by rw [h], ⟨by unfold wayP; rw [h]; rfl, .inl rfl⟩, ⟨by unfold wayT; rw [h]; rfl, .inl rfl⟩, hb⟩

theorem own_row2 {B : Nat} {w : World} {v : Value} {n : Nat} {l : List Int} (hown : w.ownsRow B 3 1 v n (l.map (Value.int .i64))) : ∃ a c, v = .slice a n c ∧ Row w a n l := by
  obtain ⟨a, b, c, e, _, ho⟩ := own_ob2 hown
  exact ⟨a, c, e, ho.row⟩

theorem within_in {p n : Nat} {L : List (List Int)} (h : netOk (p : Int) n L = true) : Within (inL L) p n := fun _ hk x hx => (netOk_mem h hk).1 x hx
theorem within_out {p n : Nat} {L : List (List Int)} (h : netOk (p : Int) n L = true) : Within (outL L) p n := fun _ hk x hx => (netOk_mem h hk).2.1 x hx

set_option maxHeartbeats 4000000 in
theorem onWayS_any (p s t : Int) (a : Option Addr) (n c : Nat) (L : List (List Int)) (w : World) (h : Lists w a (3 * n) L) (hs : sizeN n L ≤ 1048576) :
    Calls Try.prog 19 #[.agg #[.int .i64 p, .slice a n c], .int .i64 s, .int .i64 t] w fun e w' => OwEnd (wayOk p n L s t) (wayP p n L s t) (wayT p n L s t) w e w' := by
  have hAl := below_al w (.cells #[.int .i64 p, .slice a n c] 26)
  have PAR := hide (heap_alloc_new w (.cells #[.int .i64 p, .slice a n c] 26))
  have HG := hide (goodNetS_any p a n c L _ (h.below hAl) hs)
  have HL := hide h
  have HB0 := hide hAl
  clear h hAl
  go_enter Try.func19, Try.ntmps19
  go_wp2_with fail
  refine HG.out.mono ?_
  rintro e w2 ⟨rfl, hb⟩
  have HB1 := hide (HB0.out.trans (hb.mono HB0.out.size))
  have PAR1 := hide (keep PAR.out hb)
  obtain ⟨hc0, hc1⟩ := cells2 PAR1.out
  clear HG HB0 PAR hb
  by_cases hg : netOk p n L = true
  rotate_left
  · have hg' : netOk p n L = false := by simpa using hg
    have HN := hide (owEnd_no (show wayOk p n L s t = false by unfold wayOk; rw [hg']; rfl) HB1.out)
    rw [hg']
    clear hg hg'
    go_wp2_with fail
    go_ret3
    exact HN.out
  rw [hg]
  have HG := hide hg
  obtain ⟨⟨hp1, hp2⟩, hn24, _⟩ := netOk_parts hg
  clear hg
  go_wp2_with fail
  refine (in_any _ _ _ _).mono ?_
  rintro e w3 ⟨rfl, hw3⟩
  subst hw3
  by_cases hq : inB s 0 (p - 1) = true
  rotate_left
  · have hq' : inB s 0 (p - 1) = false := by simpa using hq
    have HN := hide (owEnd_no (show wayOk p n L s t = false by unfold wayOk; rw [hq']; simp) HB1.out)
    rw [hq']
    clear hq hq'
    go_wp2_with fail
    go_ret3
    exact HN.out
  rw [hq]
  have HQ := hide hq
  clear hq
  go_wp2_with fail
  refine (in_any _ _ _ _).mono ?_
  rintro e w3 ⟨rfl, hw3⟩
  subst hw3
  by_cases hq : inB t 0 (p - 1) = true
  rotate_left
  · have hq' : inB t 0 (p - 1) = false := by simpa using hq
    have HN := hide (owEnd_no (show wayOk p n L s t = false by unfold wayOk; rw [hq']; simp) HB1.out)
    rw [hq']
    clear hq hq'
    go_wp2_with fail
    go_ret3
    exact HN.out
  rw [hq]
  have HQ2 := hide hq
  have HOK := hide (show wayOk p n L s t = true by unfold wayOk; rw [HG.out, HQ.out, HQ2.out]; rfl)
  clear hq
  have hs1 : 0 ≤ s ∧ s ≤ p - 1 := by simpa [inB] using HQ.out
  have ht1 : 0 ≤ t ∧ t ≤ p - 1 := by simpa [inB] using HQ2.out
  obtain ⟨P, rfl⟩ : ∃ P : Nat, p = (P : Int) := ⟨p.toNat, by omega⟩
  obtain ⟨S, rfl⟩ : ∃ P : Nat, s = (P : Int) := ⟨s.toNat, by omega⟩
  obtain ⟨T, rfl⟩ : ∃ P : Nat, t = (P : Int) := ⟨t.toNat, by omega⟩
  have HFW := hide (forward_any (inL L) (outL L) P S a n c L w3 (HL.out.below HB1.out) hn24 (by omega) (by omega) hs (within_in HG.out) (within_out HG.out) (fun _ => rfl) (fun _ => rfl))
  have HBK := hide (fun W (hW : Below w.heap.size w W) => back_any (outL L) (inL L) P T a n c L W (HL.out.below hW) hn24 (by omega) (by omega) hs (within_out HG.out) (within_in HG.out) (fun _ => rfl) (fun _ => rfl))
  clear hs1 ht1
  go_wp2_with fail
  refine HFW.out.mono ?_
  rintro e w4 ⟨b1, b2, rfl, hr1, hr2, hb4⟩
  have HB4 := hide (HB1.out.trans (hb4.mono HB1.out.size))
  have PAR4 := hide (keep PAR1.out hb4)
  have HR1 := hide hr1
  have HR2 := hide hr2
  obtain ⟨hc0, hc1⟩ := cells2 PAR4.out
  clear hb4 hr1 hr2 HB1 PAR1 HFW
  go_wp2_with fail
  refine (HBK.out _ HB4.out).mono ?_
  rintro e w5 ⟨b3, b4, rfl, hr3, hr4, hb5⟩
  have HB5 := hide (HB4.out.trans (hb5.mono HB4.out.size))
  have HB1 := hide (both_any _ _ b1 b3 P P P P w5 (HR1.out.grow hb5) hr3 rfl (by omega))
  have HB2 := hide (fun W (hW : Below w5.heap.size w5 W) => both_any _ _ b2 b4 n n n n W ((HR2.out.grow hb5).grow hW) (hr4.grow hW) rfl hn24)
  clear hb5 hr3 hr4 HB4 PAR4 HBK HR1 HR2 hc0 hc1
  go_wp2_with fail
  refine HB1.out.mono ?_
  rintro e w6 ⟨v6, m6, rfl, hown6, hb6⟩
  have HB6 := hide (HB5.out.trans (hb6.mono HB5.out.size))
  have HB7 := hide (HB2.out w6 hb6)
  obtain ⟨a6, c6, hv6, hr6⟩ := own_row2 hown6
  have HR6 := hide hr6
  subst hv6
  clear hown6 hb6 hr6 HB2 HB1 HB5
  go_wp2_with fail
  refine HB7.out.mono ?_
  rintro e w7 ⟨v7, m7, rfl, hown7, hb7⟩
  obtain ⟨a7, c7, hv7, hr7⟩ := own_row2 hown7
  subst hv7
  have HE : Hid (OwEnd (wayOk (P : Int) n L (S : Int) (T : Int)) (wayP (P : Int) n L (S : Int) (T : Int)) (wayT (P : Int) n L (S : Int) (T : Int)) w (.returned (.tuple #[.slice a6 m6 c6, .slice a7 m7 c7, .bool true])) w7) :=
    ⟨a6, m6, c6, a7, m7, c7, by rw [HOK.out], by unfold wayP; rw [HOK.out]; exact HR6.out.below hb7, by unfold wayT; rw [HOK.out]; exact hr7, HB6.out.trans (hb7.mono HB6.out.size)⟩
  clear hown7 hb7 hr7 HB7
  go_wp2_with fail
  go_ret3
  exact HE.out
end Go.Proofs.Ytbhhpfiolombcaa


/- slices.ContainsFunc over the steps of a net, with a bound method. -/
namespace Go.Proofs.Ytbhhpfiolombcaa
open Go.RowKit
set_option maxRecDepth 10000

/-- Whether one of the first n is as asked. -/
def anyK (Pd : Nat → Bool) (n : Nat) : Bool := (List.range n).any Pd

theorem anyK_yes {Pd : Nat → Bool} {n k : Nat} (hk : k < n) (h : Pd k = true) : anyK Pd n = true := by
  unfold anyK
  rw [List.any_eq_true]
  exact ⟨k, by simpa using hk, h⟩

theorem anyK_step {Pd : Nat → Bool} {k : Nat} (h : anyK Pd k = false) (he : Pd k = false) : anyK Pd (k + 1) = false := by
  unfold anyK at *
  rw [List.range_succ, List.any_append, h]
  simp [he]

def IdxEnd2 (Pd : Nat → Bool) (n : Nat) (w : World) (e : Ending) (w' : World) : Prop := ∃ z : Int, e = .returned (.int .i64 z) ∧ Hid (decide (0 ≤ z) = anyK Pd n) ∧ Below w.heap.size w w'

set_option maxHeartbeats 1000000 in
theorem indexM_any (p F K : Int) (ar : Option Addr) (mr cr : Nat) (Pd : Nat → Bool) (B n : Nat) (L : List (List Int)) (w : World) (h : PartS w B (3 * n) (3 * n) L) (hn : n ≤ 24)
    (hc : ∀ W k, k < n → Calls Try.prog 47 #[.agg #[.int .i64 p, .slice ar mr cr, .int .u16 F, .int .u16 K], .agg #[.int .u16 (maskL (L.getD (3 * k) []) : Int), .int .u16 (maskL (L.getD (3 * k + 1) []) : Int), .int .u16 (maskL (L.getD (3 * k + 2) []) : Int)]] W fun e W' => e = .returned (.bool (Pd k)) ∧ Below W.heap.size W W') :
    Calls Try.prog 69 #[.slice (some ⟨B, 0, none⟩) n n, .func (.func 47) #[.agg #[.int .i64 p, .slice ar mr cr, .int .u16 F, .int .u16 K]] #[]] w fun e w' => IdxEnd2 Pd n w e w' := by
  have HP := hide h
  have HC := hide hc
  clear h hc
  go_enter Try.func69, Try.ntmps69
  go_wp2_with fail
  go_loopw [8] (fun i wr => ∃ k : Nat, k ≤ n ∧ i = .int .i64 k ∧ Hid (anyK Pd k = false) ∧ Hid (Below w.heap.size w wr)) (fun i _ => n - (intOf i).toNat)
  case atStart => exact ⟨0, Nat.zero_le _, rfl, rfl, Below.refl _ _⟩
  case round =>
    obtain ⟨k, hk, rfl, hu, hbw⟩ := hrel
    by_cases hlt : k < n
    rotate_left
    · have hk' : k = n := by omega
      subst hk'
      have HE : Hid (IdxEnd2 Pd k w (.returned (.int .i64 (-1))) wr) := ⟨-1, rfl, by rw [hu.out]; rfl, hbw.out⟩
      go_wp2_with fail
      go_ret
      exact HE.out
    obtain ⟨hc0, hc1, hc2⟩ := (HP.out.grow hbw.out).atW hlt
    have HH := hide (HC.out wr k hlt)
    cases hh : Pd k
    · have HU := hide (anyK_step hu.out hh)
      rw [hh] at HH
      clear hh hu
      generalize maskL (L.getD (3 * k) []) = s0 at *
      generalize maskL (L.getD (3 * k + 1) []) = s1 at *
      generalize maskL (L.getD (3 * k + 2) []) = s2 at *
      go_wp2_with fail
      refine HH.out.mono ?_
      rintro e w1 ⟨rfl, hb⟩
      have HB := hide (hbw.out.trans (hb.mono hbw.out.size))
      clear hb HH hc0 hc1 hc2
      go_wp2_with fail
      go_roundw
      case rel => exact ⟨k + 1, by omega, by go_num, HU, HB⟩
      case measure => simp [intOf]; omega
    · have HY := hide (anyK_yes hlt hh)
      rw [hh] at HH
      clear hh hu
      generalize maskL (L.getD (3 * k) []) = s0 at *
      generalize maskL (L.getD (3 * k + 1) []) = s1 at *
      generalize maskL (L.getD (3 * k + 2) []) = s2 at *
      go_wp2_with fail
      refine HH.out.mono ?_
      rintro e w1 ⟨rfl, hb⟩
      have HE : Hid (IdxEnd2 Pd n w (.returned (.int .i64 (k : Int))) w1) := ⟨k, rfl, by rw [HY.out]; simp [Hid], hbw.out.trans (hb.mono hbw.out.size)⟩
      clear hb HH hc0 hc1 hc2
      go_wp2_with fail
      go_ret
      exact HE.out

set_option maxHeartbeats 400000 in
theorem containsM_any (p F K : Int) (ar : Option Addr) (mr cr : Nat) (Pd : Nat → Bool) (B n : Nat) (L : List (List Int)) (w : World) (h : PartS w B (3 * n) (3 * n) L) (hn : n ≤ 24)
    (hc : ∀ W k, k < n → Calls Try.prog 47 #[.agg #[.int .i64 p, .slice ar mr cr, .int .u16 F, .int .u16 K], .agg #[.int .u16 (maskL (L.getD (3 * k) []) : Int), .int .u16 (maskL (L.getD (3 * k + 1) []) : Int), .int .u16 (maskL (L.getD (3 * k + 2) []) : Int)]] W fun e W' => e = .returned (.bool (Pd k)) ∧ Below W.heap.size W W') :
    Calls Try.prog 46 #[.slice (some ⟨B, 0, none⟩) n n, .func (.func 47) #[.agg #[.int .i64 p, .slice ar mr cr, .int .u16 F, .int .u16 K]] #[]] w fun e w' => e = .returned (.bool (anyK Pd n)) ∧ Below w.heap.size w w' := by
  have HI := hide (indexM_any p F K ar mr cr Pd B n L w h hn hc)
  clear h hc
  go_enter Try.func46, Try.ntmps46
  go_wp2_with fail
  refine HI.out.mono ?_
  rintro e w1 ⟨z, rfl, hz, hb⟩
  have HB := hide hb
  clear hb HI
  go_wp2_with fail
  go_ret
  exact ⟨ret_b hz.out, HB.out⟩

set_option maxHeartbeats 1000000 in
theorem indexS_any (p F K : Int) (ar : Option Addr) (mr cr : Nat) (Pd : Nat → Bool) (B n : Nat) (L : List (List Int)) (w : World) (h : PartS w B (3 * n) (3 * n) L) (hn : n ≤ 24)
    (hc : ∀ W k, k < n → Calls Try.prog 48 #[.agg #[.int .i64 p, .slice ar mr cr, .int .i64 F, .int .i64 K], .agg #[.int .u16 (maskL (L.getD (3 * k) []) : Int), .int .u16 (maskL (L.getD (3 * k + 1) []) : Int), .int .u16 (maskL (L.getD (3 * k + 2) []) : Int)]] W fun e W' => e = .returned (.bool (Pd k)) ∧ Below W.heap.size W W') :
    Calls Try.prog 69 #[.slice (some ⟨B, 0, none⟩) n n, .func (.func 48) #[.agg #[.int .i64 p, .slice ar mr cr, .int .i64 F, .int .i64 K]] #[]] w fun e w' => IdxEnd2 Pd n w e w' := by
  have HP := hide h
  have HC := hide hc
  clear h hc
  go_enter Try.func69, Try.ntmps69
  go_wp2_with fail
  go_loopw [8] (fun i wr => ∃ k : Nat, k ≤ n ∧ i = .int .i64 k ∧ Hid (anyK Pd k = false) ∧ Hid (Below w.heap.size w wr)) (fun i _ => n - (intOf i).toNat)
  case atStart => exact ⟨0, Nat.zero_le _, rfl, rfl, Below.refl _ _⟩
  case round =>
    obtain ⟨k, hk, rfl, hu, hbw⟩ := hrel
    by_cases hlt : k < n
    rotate_left
    · have hk' : k = n := by omega
      subst hk'
      have HE : Hid (IdxEnd2 Pd k w (.returned (.int .i64 (-1))) wr) := ⟨-1, rfl, by rw [hu.out]; rfl, hbw.out⟩
      go_wp2_with fail
      go_ret
      exact HE.out
    obtain ⟨hc0, hc1, hc2⟩ := (HP.out.grow hbw.out).atW hlt
    have HH := hide (HC.out wr k hlt)
    cases hh : Pd k
    · have HU := hide (anyK_step hu.out hh)
      rw [hh] at HH
      clear hh hu
      generalize maskL (L.getD (3 * k) []) = s0 at *
      generalize maskL (L.getD (3 * k + 1) []) = s1 at *
      generalize maskL (L.getD (3 * k + 2) []) = s2 at *
      go_wp2_with fail
      refine HH.out.mono ?_
      rintro e w1 ⟨rfl, hb⟩
      have HB := hide (hbw.out.trans (hb.mono hbw.out.size))
      clear hb HH hc0 hc1 hc2
      go_wp2_with fail
      go_roundw
      case rel => exact ⟨k + 1, by omega, by go_num, HU, HB⟩
      case measure => simp [intOf]; omega
    · have HY := hide (anyK_yes hlt hh)
      rw [hh] at HH
      clear hh hu
      generalize maskL (L.getD (3 * k) []) = s0 at *
      generalize maskL (L.getD (3 * k + 1) []) = s1 at *
      generalize maskL (L.getD (3 * k + 2) []) = s2 at *
      go_wp2_with fail
      refine HH.out.mono ?_
      rintro e w1 ⟨rfl, hb⟩
      have HE : Hid (IdxEnd2 Pd n w (.returned (.int .i64 (k : Int))) w1) := ⟨k, rfl, by rw [HY.out]; simp [Hid], hbw.out.trans (hb.mono hbw.out.size)⟩
      clear hb HH hc0 hc1 hc2
      go_wp2_with fail
      go_ret
      exact HE.out

set_option maxHeartbeats 400000 in
theorem containsS_any (p F K : Int) (ar : Option Addr) (mr cr : Nat) (Pd : Nat → Bool) (B n : Nat) (L : List (List Int)) (w : World) (h : PartS w B (3 * n) (3 * n) L) (hn : n ≤ 24)
    (hc : ∀ W k, k < n → Calls Try.prog 48 #[.agg #[.int .i64 p, .slice ar mr cr, .int .i64 F, .int .i64 K], .agg #[.int .u16 (maskL (L.getD (3 * k) []) : Int), .int .u16 (maskL (L.getD (3 * k + 1) []) : Int), .int .u16 (maskL (L.getD (3 * k + 2) []) : Int)]] W fun e W' => e = .returned (.bool (Pd k)) ∧ Below W.heap.size W W') :
    Calls Try.prog 46 #[.slice (some ⟨B, 0, none⟩) n n, .func (.func 48) #[.agg #[.int .i64 p, .slice ar mr cr, .int .i64 F, .int .i64 K]] #[]] w fun e w' => e = .returned (.bool (anyK Pd n)) ∧ Below w.heap.size w w' := by
  have HI := hide (indexS_any p F K ar mr cr Pd B n L w h hn hc)
  clear h hc
  go_enter Try.func46, Try.ntmps46
  go_wp2_with fail
  refine HI.out.mono ?_
  rintro e w1 ⟨z, rfl, hz, hb⟩
  have HB := hide hb
  clear hb HI
  go_wp2_with fail
  go_ret
  exact ⟨ret_b hz.out, HB.out⟩

end Go.Proofs.Ytbhhpfiolombcaa


/- When a flow is good, and that the program and the specification ask the same for it. -/
namespace Go.Proofs.Ytbhhpfiolombcaa
open Go.RowKit

def spoilL (L : List (List Int)) (s t : Int) (k : Nat) : Bool :=
  hasB (outL L k) s || hasB (inL L k) t || hasB (L.getD (3 * k + 2) []) s || hasB (L.getD (3 * k + 2) []) t

noncomputable def flowOk (p : Int) (n : Nat) (L : List (List Int)) (s t : Int) : Bool :=
  wayOk p n L s t && !decide (s = t) && decide (((wayP p n L s t).length : Int) = p) && decide ((wayT p n L s t).length = n) && !anyK (spoilL L s t) n

theorem nums2_full {f : Nat → Bool} {k : Nat} : (nums2 f k).length = k ↔ ∀ i, i < k → f i = true := by
  unfold nums2
  rw [List.length_map]
  constructor
  · intro h i hi
    have := List.length_filter_eq_length_iff.mp (by simpa using h : ((List.range k).filter f).length = (List.range k).length) i (by simpa using hi)
    exact this
  · intro h
    have := List.length_filter_eq_length_iff.mpr (fun i hi => h i (by simpa using hi) : ∀ i ∈ List.range k, f i = true)
    simpa using this

theorem wayOk_parts {p : Int} {n : Nat} {L : List (List Int)} {s t : Int} (h : wayOk p n L s t = true) : netOk p n L = true ∧ (0 ≤ s ∧ s < p) ∧ (0 ≤ t ∧ t < p) := by
  unfold wayOk at h
  simp only [Bool.and_eq_true] at h
  have h1 := h.1.2
  have h2 := h.2
  simp [inB] at h1 h2
  exact ⟨h.1.1, by omega, by omega⟩

theorem fth_bit {p : Int} {n : Nat} {L : List (List Int)} {s t : Int} (h : wayOk p n L s t = true) (i : Nat) : (fthM n L s).testBit i = rchB (inL L) (outL L) n s i := by
  obtain ⟨hg, hs, ht⟩ := wayOk_parts h
  have hp := (netOk_parts hg).1
  exact rchM_bit (small_out hg) ⟨by omega, by omega⟩ i
theorem bck_bit {p : Int} {n : Nat} {L : List (List Int)} {s t : Int} (h : wayOk p n L s t = true) (i : Nat) : (bckM n L t).testBit i = rchB (outL L) (inL L) n t i := by
  obtain ⟨hg, hs, ht⟩ := wayOk_parts h
  have hp := (netOk_parts hg).1
  exact rchM_bit (small_in hg) ⟨by omega, by omega⟩ i

theorem fthM_lt (n : Nat) (L : List (List Int)) (s : Int) : fthM n L s < 2 ^ 16 := rchM_lt _ _ _ _
theorem bckM_lt (n : Nat) (L : List (List Int)) (s : Int) : bckM n L s < 2 ^ 16 := rchM_lt _ _ _ _

theorem Rch.within {A B : Nat → List Int} {p n : Nat} {s q : Int} (hB : Within B p n) (hs : 0 ≤ s ∧ s < (p : Int)) (h : Rch A B n s q) : 0 ≤ q ∧ q < (p : Int) := by
  induction h with
  | base => exact hs
  | step _ hk _ hq _ => exact hB _ hk _ hq

theorem pl_bit {p : Int} {n : Nat} {L : List (List Int)} {s t : Int} (h : wayOk p n L s t = true) (i : Nat) : (fthM n L s &&& bckM n L t).testBit i = plB n L s t i := by
  rw [Nat.testBit_and, fth_bit h, bck_bit h]; rfl

theorem pl_lt {p : Nat} {n : Nat} {L : List (List Int)} {s t : Int} (h : wayOk (p : Int) n L s t = true) {i : Nat} (hi : plB n L s t i = true) : i < p := by
  obtain ⟨hg, hs, ht⟩ := wayOk_parts h
  unfold plB at hi
  rw [Bool.and_eq_true] at hi
  have := (rchB_iff.mp hi.1).within (within_out hg) hs
  omega

theorem pl_all {p : Nat} {n : Nat} {L : List (List Int)} {s t : Int} (h : wayOk (p : Int) n L s t = true) : fthM n L s &&& bckM n L t = 2 ^ p - 1 ↔ ((wayP (p : Int) n L s t).length : Int) = (p : Int) := by
  unfold wayP
  rw [h, if_pos rfl, Int.toNat_natCast]
  rw [show (((nums2 (plB n L s t) p).length : Nat) : Int) = (p : Int) ↔ (nums2 (plB n L s t) p).length = p by omega, nums2_full]
  constructor
  · intro e i hi
    rw [← pl_bit h i, e, Nat.testBit_two_pow_sub_one]; simpa using hi
  · intro hall
    apply Nat.eq_of_testBit_eq
    intro i
    rw [pl_bit h i, Nat.testBit_two_pow_sub_one]
    by_cases hi : i < p
    · rw [hall i hi]; simp [hi]
    · have : ¬ plB n L s t i = true := fun e => hi (pl_lt h e)
      simp [hi, this]

theorem lead_tr {p : Int} {n : Nat} {L : List (List Int)} {s t : Int} (h : wayOk p n L s t = true) {k : Nat} (hk : k < n) : leadB (maskL (L.getD (3 * k) [])) (maskL (L.getD (3 * k + 1) [])) (fthM n L s) (bckM n L t) = trB n L s t k := by
  obtain ⟨hg, hs, ht⟩ := wayOk_parts h
  have hm := netOk_mem hg hk
  rw [show L.getD (3 * k) [] = inL L k from rfl, show L.getD (3 * k + 1) [] = outL L k from rfl]
  unfold leadB trB
  congr 1
  · rw [Bool.eq_iff_iff, decide_eq_true_iff, and_ne_iff (fun x hx => (hm.1 x hx).1)]
    unfold rchT
    rw [List.any_eq_true]
    simp only [fth_bit h]
  · rw [Bool.eq_iff_iff, decide_eq_true_iff, and_ne_iff (fun x hx => (hm.2.1 x hx).1)]
    unfold rchT
    rw [List.any_eq_true]
    simp only [bck_bit h]

theorem tr_all {p : Int} {n : Nat} {L : List (List Int)} {s t : Int} (h : wayOk p n L s t = true) : anyK (fun k => !leadB (maskL (L.getD (3 * k) [])) (maskL (L.getD (3 * k + 1) [])) (fthM n L s) (bckM n L t)) n = !decide ((wayT p n L s t).length = n) := by
  unfold wayT
  rw [h, if_pos rfl]
  rw [Bool.eq_iff_iff]
  unfold anyK
  rw [List.any_eq_true, Bool.not_eq_true', decide_eq_false_iff_not, nums2_full]
  constructor
  · rintro ⟨k, hk, he⟩ hall
    have hk' : k < n := by simpa using hk
    rw [lead_tr h hk', hall k hk'] at he
    simp at he
  · intro hno
    apply Classical.byContradiction
    intro hne
    apply hno
    intro k hk
    apply Classical.byContradiction
    intro he
    exact hne ⟨k, by simpa using hk, by rw [lead_tr h hk]; simpa using he⟩

theorem hasB_mask {xs : List Int} {y : Int} (h : ∀ x ∈ xs, 0 ≤ x) (hy : 0 ≤ y) : (maskL xs).testBit y.toNat = hasB xs y := by
  rw [maskL_bit xs _ h, show ((y.toNat : Nat) : Int) = y by omega]
  unfold hasB
  rw [Bool.eq_iff_iff, decide_eq_true_iff]
  simp

theorem spoil_eq {p : Int} {n : Nat} {L : List (List Int)} {s t : Int} (h : wayOk p n L s t = true) : anyK (fun k => spoilB (maskL (L.getD (3 * k) [])) (maskL (L.getD (3 * k + 1) [])) (maskL (L.getD (3 * k + 2) [])) s.toNat t.toNat) n = anyK (spoilL L s t) n := by
  obtain ⟨hg, hs, ht⟩ := wayOk_parts h
  have key : ∀ k, k < n → spoilB (maskL (L.getD (3 * k) [])) (maskL (L.getD (3 * k + 1) [])) (maskL (L.getD (3 * k + 2) [])) s.toNat t.toNat = spoilL L s t k := by
    intro k hk
    have hm := netOk_mem hg hk
    rw [show L.getD (3 * k) [] = inL L k from rfl, show L.getD (3 * k + 1) [] = outL L k from rfl]
    unfold spoilB spoilL
    rw [hasB_mask (fun x hx => (hm.2.1 x hx).1) hs.1, hasB_mask (fun x hx => (hm.1 x hx).1) ht.1, hasB_mask (fun x hx => (hm.2.2 x hx).1) hs.1, hasB_mask (fun x hx => (hm.2.2 x hx).1) ht.1]
  unfold anyK
  rw [Bool.eq_iff_iff, List.any_eq_true, List.any_eq_true]
  constructor
  · rintro ⟨k, hk, he⟩; exact ⟨k, hk, by rw [← key k (by simpa using hk)]; exact he⟩
  · rintro ⟨k, hk, he⟩; exact ⟨k, hk, by rw [key k (by simpa using hk)]; exact he⟩
end Go.Proofs.Ytbhhpfiolombcaa
