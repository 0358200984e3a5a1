/- The library's sort over marks: compareTokens leaves all as it was but for new blocks; so slices.SortFunc puts a row of packed marks in order and leaves all else. -/
import Derived.Test.YteanbjhlfplojaaLm
import Derived.Test.YteanbjhlfplojaaSl
import Derived.Test.YteanbjhlfplojaaCg
import Derived.Deep.MidRow
namespace Go.Proofs.Yteanbjhlfplojaa
open Go.RowKit Go.Sort Go.Shelf
set_option maxRecDepth 10000

/-- A mark's cells in a row of packed marks. -/
def encT (n : Nat) (xs : List Int) : List Value := (packOf xs n).toList

theorem encT_len (n : Nat) (xs : List Int) : (encT n xs).length = 16 := by simp [encT, packOf_size]
theorem encT_one (n : Nat) (xs : List Int) : ∀ v ∈ encT n xs, v.oneCell' = true := fun v hv => by
  have := packOf_one xs n
  rw [Array.all_eq_true_iff_forall_mem] at this
  exact this v (by simpa [encT] using hv)

def cfT (n : Nat) (xs ys : List Int) : Int := cmpN (fOf xs n) (fOf ys n) 16 0

theorem ltT_yes (n : Nat) (xs ys : List Int) : ltOf (cfT n) xs ys = true ↔ cmpN (fOf xs n) (fOf ys n) 16 0 < 0 := decide_eq_true_iff
theorem ltT_no (n : Nat) (xs ys : List Int) : ltOf (cfT n) xs ys = false ↔ ¬ cmpN (fOf xs n) (fOf ys n) 16 0 < 0 := decide_eq_false_iff_not

theorem swoT (n : Nat) : SWO (ltOf (cfT n)) where
  irrefl x := by rw [ltT_no]; have := cmpN_anti (fOf x n) (fOf x n) 16 0; omega
  trans x y z h1 h2 := by
    rw [ltT_yes] at *
    have h3 := cmpN_le _ _ _ _ _ (Int.le_of_lt h1) (Int.le_of_lt h2)
    by_cases h : cmpN (fOf x n) (fOf z n) 16 0 = 0
    · have h4 : cmpN (fOf z n) (fOf x n) 16 0 ≤ 0 := by rw [cmpN_anti, h]; omega
      have h5 := cmpN_le _ _ _ _ _ (Int.le_of_lt h2) h4
      rw [cmpN_anti] at h5; omega
    · omega
  ntrans x y z h1 h2 := by
    rw [ltT_no] at *
    have a1 := cmpN_anti (fOf x n) (fOf y n) 16 0
    have a2 := cmpN_anti (fOf y n) (fOf z n) 16 0
    have a3 := cmpN_anti (fOf x n) (fOf z n) 16 0
    have := cmpN_le (fOf z n) (fOf y n) (fOf x n) 16 0 (by omega) (by omega)
    omega

theorem cmpLaysT (n blk off size : Nat) (w : World) : CmpLays Try.prog 33 #[] (encT n) 16 (cfT n) blk off size w := by
  intro m os dk hs x y
  have e : (#[Value.agg (encT n x).toArray, .agg (encT n y).toArray] ++ #[] : Array Value) = #[.agg (tokF (fOf x n)), .agg (tokF (fOf y n))] := by simp [encT, packOf]
  rw [e]
  refine (cmpG_any (fOf x n) (fOf y n) _).mono ?_
  rintro e w' ⟨rfl, q, rfl⟩
  refine ⟨rfl, q, #[.cells (tokF (fOf x n)) 50, .cells (tokF (fOf y n)) 50], ?_⟩
  rw [alloc_eq_grow, alloc_eq_grow, grow_grow]
  rfl

/-- A row of packed marks. -/
def TokRow (n : Nat) (w : World) (a : Option Addr) (ds : List (List Int)) : Prop :=
  ds = [] ∨ ∃ b off, a = some ⟨b, off, none⟩ ∧ b < w.heap.size ∧ ∀ i, i < ds.length → w.rangeAt b (off + i * 16) (encT n (ds.getD i []))

theorem holdsK_range {n : Nat} {w : World} {b off : Nat} {d : Array (List Int)} (h : HoldsK (encT n) 16 w b off d) {i : Nat} (hi : i < d.size) : w.rangeAt b (off + i * 16) (encT n (d.toList.getD i [])) := by
  intro j v hv
  have hj : j < 16 := by have := (List.getElem?_eq_some_iff.1 hv).1; rwa [encT_len] at this
  have := (h.cell hi hj).1
  rw [this]
  have e : d[i]! = d.toList.getD i [] := by simp [hi]
  rw [e, ← hv, List.getElem!_eq_getElem?_getD, hv]; rfl

/-- Behind the sort: the marks in order, in the same block; all below stands. -/
theorem sortT_any (n B c : Nat) (ds : List (List Int)) (w : World) (hB : B < w.heap.size) (hH : HoldsK (encT n) 16 w B 0 ds.toArray) (hl : ds.length ≤ 400) :
    Calls Try.prog 43 #[.slice (some ⟨B, 0, none⟩) ds.length c, .func (.func 33) #[] #[]] w fun e w' =>
      e = .returned (.tuple #[]) ∧ ∃ ds', ds'.length = ds.length ∧ (∀ x, x ∈ ds' ↔ x ∈ ds) ∧ ds'.Pairwise (fun x y => ¬ cfT n y x < 0) ∧ TokRow n w' (some ⟨B, 0, none⟩) ds' ∧ Below B w w' ∧ w.heap.size ≤ w'.heap.size := by
  have eg : ∀ args w, (callFunc 33 args).run Try.prog w = .ok (.enter 33 args) w := enters_of Try.func33 (by kernel_rfl) rfl
  have hcon := AnyQ.slices_SortFunc Try.sortT 16 Try.isAgg50 Try.sizeOf50 (encT n) (encT_len n) (encT_one n) (cfT n) (swoT n) 33 #[] B 0 c ds.toArray w eg (cmpLaysT n B 0 _ w) hH hB (by simp; omega)
  rw [List.size_toArray] at hcon
  change Calls Try.prog 43 _ _ _ at hcon
  refine hcon.mono ?_
  rintro e w' ⟨rfl, d', q, os, hp, hs, rfl⟩
  have hsz : d'.size = ds.length := by simpa using hp.1
  have hperm : d'.toList.Perm ds := by
    have := hp.2.2
    rw [Array.extract_eq_self_of_le (by omega), Array.extract_eq_self_of_le (by simp)] at this
    simpa using this
  refine ⟨rfl, d'.toList, by simpa using hsz, fun x => hperm.mem_iff, ?_, ?_, ?_, size_sortWorldK_c _ _ _ _ _ _ _ _⟩
  · rw [List.pairwise_iff_getElem]
    intro i j hi hj hij
    have := hs i j (by omega) hij (by simp at hj; omega)
    rw [ltT_no] at this
    simpa [cfT, show i < d'.size by simpa using hi, show j < d'.size by simpa using hj] using this
  · by_cases h0 : d'.toList = []
    · exact .inl h0
    · have hH' := holdsK_sortWorldK_c (encT n) 16 w B 0 ds.toArray d' q os hH hB (by simpa using hsz)
      refine .inr ⟨B, 0, rfl, Nat.lt_of_lt_of_le hB (size_sortWorldK_c _ _ _ _ _ _ _ _), fun i hi => holdsK_range hH' (by simpa using hi)⟩
  · refine ⟨rfl, rfl, rfl, ?_, fun k hk => ?_⟩
    · exact size_sortWorldK_c _ _ _ _ _ _ _ _
    · unfold sortWorldK putRowK
      rw [heap_grow_old _ _ (by rw [size_putRow]; exact Nat.lt_trans hk hB)]
      simp only [putRow, mapBlock, Sort.ahead, Array.getElem?_modify]
      rw [if_neg (by omega)]
end Go.Proofs.Yteanbjhlfplojaa
