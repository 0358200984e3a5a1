/- LeastMarks' law: how great the answer is; what the law keeps in mind. -/
import Derived.Test.YteanbjhlfplojaaLk
import Derived.Test.YteanbjhlfplojaaLu
import Derived.Test.YteanbjhlfplojaaOz
namespace Go.Proofs.Yteanbjhlfplojaa
open Go.RowKit

theorem min_exists {n : Nat} {L : List (List Int)} (hl : ∀ x ∈ L, x.length = n) : ∃ R, MinOf n L R ∧ R.length ≤ L.length := by
  have hm : ∀ x, x ∈ L.mergeSort (fun x y => decide (cmpL n x y ≤ 0)) ↔ x ∈ L := fun x => (List.mergeSort_perm L _).mem_iff
  have hs : (L.mergeSort (fun x y => decide (cmpL n x y ≤ 0))).Pairwise fun x y => ¬ cmpL n y x < 0 := by
    have := List.pairwise_mergeSort (le := fun x y => decide (cmpL n x y ≤ 0)) (fun a b c h1 h2 => by
      simp only [decide_eq_true_eq] at *; exact cmpL_le h1 h2) (fun a b => by
      have := cmpL_anti n a b
      simp only [Bool.or_eq_true, decide_eq_true_eq]
      omega) L
    refine this.imp fun {x y} h => ?_
    simp only [decide_eq_true_eq] at h
    rw [cmpL_anti n x y]
    omega
  refine ⟨_, (keep_min (fun x hx => hl x ((hm x).mp hx)) hs).perm hm, ?_⟩
  have := keepL_len n (L.mergeSort (fun x y => decide (cmpL n x y ≤ 0))) _ (Nat.le_refl _)
  rw [List.take_length] at this
  simpa using this

theorem leastR_min {p : Int} {L : List (List Int)} (h : okL p L = true) : MinOf p.toNat L (leastR p L) ∧ (leastR p L).length ≤ L.length := by
  obtain ⟨R, h1, h2⟩ := min_exists (n := p.toNat) fun x hx => good_len (okL_all h x hx)
  have e : leastR p L = R := by unfold leastR; rw [if_pos h]; exact h1.least.symm
  rw [e]
  exact ⟨h1, h2⟩

theorem leastR_no {p : Int} {L : List (List Int)} (h : okL p L = false) : leastR p L = [] := by unfold leastR; rw [h]; rfl

theorem sizeL_le {R : List (List Int)} (h : ∀ x ∈ R, x.length ≤ 16) : sizeL R ≤ 16 * R.length := by
  induction R with
  | nil => simp [sizeL]
  | cons a R ih =>
    have h1 := h a (by simp)
    have h2 := ih fun x hx => h x (List.mem_cons_of_mem _ hx)
    simp only [sizeL, List.map_cons, List.sum_cons, List.length_cons] at *
    omega

theorem leastR_size (p : Int) (L : List (List Int)) : (leastR p L).length ≤ 400 ∧ sizeL (leastR p L) ≤ 6400 := by
  cases h : okL p L
  · rw [leastR_no h]; exact ⟨by simp, by simp [sizeL]⟩
  · obtain ⟨h1, h2⟩ := leastR_min h
    have h4 : L.length ≤ 400 := by unfold okL at h; simp only [Bool.and_eq_true, decide_eq_true_eq] at h; exact h.1.2
    have hp : p.toNat ≤ 16 := by unfold okL at h; simp only [Bool.and_eq_true] at h; have := h.1.1; simp [inB] at this; omega
    have := sizeL_le (R := leastR p L) fun x hx => by
      have := good_len (okL_all h x (((h1.2 x).mp hx).1)); omega
    omega

theorem cntF_size1 (L : List (List Int)) (k : Nat) (h : k ≤ L.length) : cntF (fun j => L.getD j []) k = sizeL (L.take k) := by
  induction k with
  | zero => simp [cntF, sizeL]
  | succ k ih => simp only [cntF]; rw [ih (by omega), sizeL_take_succ L k (by omega)]

theorem cntF_all1 {L : List (List Int)} {n : Nat} (hl : L.length = n) : cntF (fun j => L.getD j []) n = sizeL L := by
  rw [cntF_size1 L n (by omega), List.take_of_length_le (by omega)]

theorem PartF.lists1 {w : World} {B hi n : Nat} {T : TypeId} {L : List (List Int)} (h : PartF w B hi n T (fun j => L.getD j [])) (hl : L.length = n) (hs : sizeN n L ≤ 1048576) : Lists w (some ⟨B, 0, none⟩) n L := by
  obtain ⟨C, f, h1, h2, h3, h4⟩ := h
  refine ⟨hl, .inr ⟨B, 0, rfl, (Array.getElem?_eq_some_iff.mp h1).1, fun j hj => ?_⟩⟩
  obtain ⟨e1, e2, e3, e4⟩ := h3 j hj
  refine ⟨_, _, _, by rw [cell_of_row w B (0 + j) C T _ h1, Nat.zero_add]; exact e1, ?_, e4.row⟩
  have := len_le L j
  show (L.getD j []).length ≤ maxLen
  unfold sizeN at hs; unfold maxLen; omega

theorem NetF.lists1 {w : World} {a : Option Addr} {B hi n : Nat} {L : List (List Int)} (h : NetF w a B hi n (fun j => L.getD j [])) (hl : L.length = n) (hs : sizeN n L ≤ 1048576) : Lists w a n L := by
  rcases h with h0 | ⟨rfl, hp⟩
  · exact ⟨hl, .inl h0⟩
  · exact hp.lists1 hl hs

theorem NetF.grow {w w' : World} {a : Option Addr} {B hi n : Nat} {M : Nat → List Int} (h : NetF w a B hi n M) (hb : Below w.heap.size w w') : NetF w' a B hi n M := by
  rcases h with h0 | ⟨e, hp⟩
  · exact .inl h0
  · exact .inr ⟨e, hp.grow hb⟩

theorem PartF.over {w w' : World} {B hi n lo hi' : Nat} {T : TypeId} {M : Nat → List Int} (h : PartF w B hi n T M) (hk : Keeps lo hi' w w') (hB : hi' ≤ B) : PartF w' B hi n T M := by
  obtain ⟨C, f, h1, h2, h3, h4⟩ := h
  refine ⟨C, f, (hk.top B hB (Array.getElem?_eq_some_iff.mp h1).1).trans h1, h2, fun j hj => ?_, h4⟩
  obtain ⟨e1, e2, e3, e4⟩ := h3 j hj
  exact ⟨e1, e2, e3, e4.keeps hk (by omega)⟩

theorem NetF.over {w w' : World} {a : Option Addr} {B hi n lo hi' : Nat} {M : Nat → List Int} (h : NetF w a B hi n M) (hk : Keeps lo hi' w w') (hB : hi' ≤ B) : NetF w' a B hi n M := by
  rcases h with h0 | ⟨e, hp⟩
  · exact .inl h0
  · exact .inr ⟨e, hp.over hk hB⟩

/-- w: the world ahead of the law; u: behind the specification's answer; v: now. -/
structure Sx (w u v : World) (B hi n : Nat) (M : Nat → List Int) (ag : Option Addr) (Bg hig N : Nat) (Mg : Nat → List Int) : Prop where
  old : Below w.heap.size w v
  mid : Below u.heap.size u v
  net : PartF v B hi n 30 M
  gn : NetF v ag Bg hig N Mg

section
variable {w u v v' : World} {B hi n : Nat} {M M' : Nat → List Int} {ag : Option Addr} {Bg hig N : Nat} {Mg Mg' : Nat → List Int}

theorem Sx.grow (h : Sx w u v B hi n M ag Bg hig N Mg) (hb : Below v.heap.size v v') : Sx w u v' B hi n M ag Bg hig N Mg :=
  ⟨h.old.trans (hb.mono h.old.size), h.mid.trans (hb.mono h.mid.size), h.net.grow hb, h.gn.grow hb⟩

theorem Sx.markN (h : Sx w u v B hi n M ag Bg hig N Mg) (hm : PartF v' B hi n 30 M') (hk : Keeps (B + 1) hi v v') (h1 : w.heap.size ≤ B) (h2 : u.heap.size ≤ B) (hg : hi ≤ Bg) : Sx w u v' B hi n M' ag Bg hig N Mg :=
  ⟨h.old.trans (hk.bel.mono (by omega)), h.mid.trans (hk.bel.mono (by omega)), hm, h.gn.over hk hg⟩
end

/-- .. when the argument's copy is no more asked for. -/
structure Sy (w u v : World) (ag : Option Addr) (Bg hig N : Nat) (Mg : Nat → List Int) : Prop where
  old : Below w.heap.size w v
  mid : Below u.heap.size u v
  gn : NetF v ag Bg hig N Mg

theorem Sy.grow {w u v v' : World} {ag : Option Addr} {Bg hig N : Nat} {Mg : Nat → List Int} (h : Sy w u v ag Bg hig N Mg) (hb : Below v.heap.size v v') : Sy w u v' ag Bg hig N Mg :=
  ⟨h.old.trans (hb.mono h.old.size), h.mid.trans (hb.mono h.mid.size), h.gn.grow hb⟩

theorem Sx.markG {w u v v' : World} {B hi n : Nat} {M : Nat → List Int} {ag : Option Addr} {Bg hig N : Nat} {Mg Mg' : Nat → List Int} (h : Sx w u v B hi n M ag Bg hig N Mg) (hm : NetF v' ag Bg hig N Mg') (hk : Keeps (Bg + 1) hig v v') (h1 : w.heap.size ≤ Bg) (h2 : u.heap.size ≤ Bg) : Sy w u v' ag Bg hig N Mg' :=
  ⟨h.old.trans (hk.bel.mono (by omega)), h.mid.trans (hk.bel.mono (by omega)), hm⟩
end Go.Proofs.Yteanbjhlfplojaa
