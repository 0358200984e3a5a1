/- Contracts that the proof stands on, one behind the other. -/
import Derived.Test.YtegabkegbhglfaaP2
import Derived.Deep.MidRow
import Derived.Laws.AppendOwn
import Derived.Great.BuildSlice
import Derived.Deep.Slices
import Derived.Deep.Strs
import Derived.Lib.SmallJoins
import Derived.ProofKit
import Derived.Laws.Tables
import Derived.Laws.ResultCell
import Derived.Deep.RegionWith
import Derived.WalkKit
import Derived.OpenShut
import Derived.ChangeOld
import Derived.Below
/- compareTokens leaves all as it was but for two new blocks and draws. -/
namespace Go.Proofs.Ytegabkegbhglfaa
open Go.RowKit
set_option maxRecDepth 10000

set_option maxHeartbeats 1000000 in
theorem cmpG_any (f g : Nat → Int) (w : World) :
    Calls Try.prog 62 #[.agg (tokF f), .agg (tokF g)] w fun e w' => e = .returned (.int .i64 (cmpN f g 16 0)) ∧ ∃ q, w' = ((w.alloc (.cells (tokF f) 82)).alloc (.cells (tokF g) 82)).drewN q := by
  have hgd : ∀ w, (eqGuard .eql 82 (.tmp 6) (.tmp 7) (.agg (tokF f)) (.agg (tokF g))).run Try.prog w = .ok () w := fun w => run_eqGuard_agg w _ _ _ _ _ _ (by kernel_rfl)
  have hg0 := heap_alloc2_old w (.cells (tokF f) 82) (.cells (tokF g) 82)
  have hg1 := heap_alloc2_new w (.cells (tokF f) 82) (.cells (tokF g) 82)
  by_cases hq : EqUpto f g 16
  · have heq : ∀ w, (Op.equalIn 10000 82 (.agg (tokF f)) (.agg (tokF g))).run Try.prog w = .ok true w := fun w => by
      rw [← eqF_upto.mpr hq]; exact run_equalIn_tok 9999 9998 rfl f g w
    have HC := hide (cmpN_eq hq)
    clear hq
    go_enter Try.func62, Try.ntmps62
    go_wp2_with (first
      | refine wpList_load_row rfl 82 (.tmp 2) rfl _ rfl 82 (tokF f) (0, 0) _ hg0 Try.underlying82 rfl (by rw [tokF_size]; exact Try.size82) ?_
      | refine wpList_load_row rfl 82 (.tmp 3) rfl _ rfl 82 (tokF g) (0, 0) _ hg1 Try.underlying82 rfl (by rw [tokF_size]; exact Try.size82) ?_)
    go_ret
    exact ⟨ret_intC HC.out.symm, 0, rfl⟩
  · have heq : ∀ w, (Op.equalIn 10000 82 (.agg (tokF f)) (.agg (tokF g))).run Try.prog w = .ok false w := fun w => by
      rw [← (Bool.eq_false_iff.mpr (fun h => hq (eqF_upto.mp h)) : eqF f g (List.range 16) = false)]; exact run_equalIn_tok 9999 9998 rfl f g w
    have HQ := hide hq
    clear hq
    go_enter Try.func62, Try.ntmps62
    go_wp2_with (first
      | refine wpList_load_row rfl 82 (.tmp 2) rfl _ rfl 82 (tokF f) (0, 0) _ hg0 Try.underlying82 rfl (by rw [tokF_size]; exact Try.size82) ?_
      | refine wpList_load_row rfl 82 (.tmp 3) rfl _ rfl 82 (tokF g) (0, 0) _ hg1 Try.underlying82 rfl (by rw [tokF_size]; exact Try.size82) ?_)
    clear heq hgd hg0 hg1
    go_loopw [9] (fun i wr => ∃ k : Nat, k ≤ 16 ∧ i = .int .i64 k ∧ EqUpto f g k ∧ ∃ q, wr = ((w.alloc (.cells (tokF f) 82)).alloc (.cells (tokF g) 82)).drewN q) (fun i _ => 16 - (intOf i).toNat)
    case atStart => exact ⟨0, Nat.zero_le _, rfl, fun i hi => absurd hi (by omega), 0, rfl⟩
    case round =>
      obtain ⟨k, hk, rfl, hu, q, rfl⟩ := hrel
      by_cases hlt : k < 16
      · have h1 := tokF_at f k hlt
        have h2 := tokF_at g k hlt
        have hi1 : ((k : Int)) < 16 := by omega
        by_cases he : f k < g k
        · have HC := hide (cmpN_lt hu hlt he)
          obtain ⟨x, hx⟩ : ∃ x, Hid (f k = x) := ⟨_, rfl⟩
          obtain ⟨y, hy⟩ : ∃ y, Hid (g k = y) := ⟨_, rfl⟩
          rw [hx.out] at h1 he
          rw [hy.out] at h2 he
          clear hu
          go_wp2
          go_quiet (fail)
          go_wp2
          go_ret
          exact ⟨ret_intC HC.out.symm, by first | exact ⟨_, rfl⟩ | exact ⟨_, drewN_two _ _ _⟩⟩
        · by_cases he2 : g k < f k
          · have HC := hide (cmpN_gt hu hlt he2)
            obtain ⟨x, hx⟩ : ∃ x, Hid (f k = x) := ⟨_, rfl⟩
            obtain ⟨y, hy⟩ : ∃ y, Hid (g k = y) := ⟨_, rfl⟩
            rw [hx.out] at h1 he he2
            rw [hy.out] at h2 he he2
            clear hu
            go_wp2
            go_quiet (fail)
            go_wp2
            go_quiet (fail)
            go_wp2
            go_ret
            exact ⟨ret_intC HC.out.symm, by first | exact ⟨_, rfl⟩ | exact ⟨_, drewN_two _ _ _⟩ | exact ⟨_, by rw [drewN_two, drewN_two]⟩⟩
          · have HU := hide (hu.step he he2)
            obtain ⟨x, hx⟩ : ∃ x, Hid (f k = x) := ⟨_, rfl⟩
            obtain ⟨y, hy⟩ : ∃ y, Hid (g k = y) := ⟨_, rfl⟩
            rw [hx.out] at h1 he he2
            rw [hy.out] at h2 he he2
            clear hu
            go_wp2
            go_quiet (fail)
            go_wp2
            go_quiet (fail)
            go_wp2
            go_roundw
            case rel => exact ⟨k + 1, by omega, by go_num, HU.out, by first | exact ⟨_, rfl⟩ | exact ⟨_, drewN_two _ _ _⟩⟩
            case measure => simp [intOf]; omega
      · have hk' : k = 16 := by omega
        subst hk'
        exact absurd hu HQ.out
end Go.Proofs.Ytegabkegbhglfaa


/- The library's sort over marks: compareTokens leaves all as it was but for new blocks; so slices.SortFunc puts a row of packed marks in order and leaves all else. -/
namespace Go.Proofs.Ytegabkegbhglfaa
open Go.RowKit Go.Sort Go.Shelf
set_option maxRecDepth 10000

/-- A mark's cells in a row of packed marks. -/
def encT (n : Nat) (xs : List Int) : List Value := (packOf xs n).toList

theorem encT_len (n : Nat) (xs : List Int) : (encT n xs).length = 16 := by simp [encT, packOf_size]
theorem encT_one (n : Nat) (xs : List Int) : ∀ v ∈ encT n xs, v.oneCell' = true := fun v hv => by
  have := packOf_one xs n
  rw [Array.all_eq_true_iff_forall_mem] at this
  exact this v (by simpa [encT] using hv)

def cfT (n : Nat) (xs ys : List Int) : Int := cmpN (fOf xs n) (fOf ys n) 16 0

theorem ltT_yes (n : Nat) (xs ys : List Int) : ltOf (cfT n) xs ys = true ↔ cmpN (fOf xs n) (fOf ys n) 16 0 < 0 := decide_eq_true_iff
theorem ltT_no (n : Nat) (xs ys : List Int) : ltOf (cfT n) xs ys = false ↔ ¬ cmpN (fOf xs n) (fOf ys n) 16 0 < 0 := decide_eq_false_iff_not

theorem swoT (n : Nat) : SWO (ltOf (cfT n)) where
  irrefl x := by rw [ltT_no]; have := cmpN_anti (fOf x n) (fOf x n) 16 0; omega
  trans x y z h1 h2 := by
    rw [ltT_yes] at *
    have h3 := cmpN_le _ _ _ _ _ (Int.le_of_lt h1) (Int.le_of_lt h2)
    by_cases h : cmpN (fOf x n) (fOf z n) 16 0 = 0
    · have h4 : cmpN (fOf z n) (fOf x n) 16 0 ≤ 0 := by rw [cmpN_anti, h]; omega
      have h5 := cmpN_le _ _ _ _ _ (Int.le_of_lt h2) h4
      rw [cmpN_anti] at h5; omega
    · omega
  ntrans x y z h1 h2 := by
    rw [ltT_no] at *
    have a1 := cmpN_anti (fOf x n) (fOf y n) 16 0
    have a2 := cmpN_anti (fOf y n) (fOf z n) 16 0
    have a3 := cmpN_anti (fOf x n) (fOf z n) 16 0
    have := cmpN_le (fOf z n) (fOf y n) (fOf x n) 16 0 (by omega) (by omega)
    omega

theorem cmpLaysT (n blk off size : Nat) (w : World) : CmpLays Try.prog 62 #[] (encT n) 16 (cfT n) blk off size w := by
  intro m os dk hs x y
  have e : (#[Value.agg (encT n x).toArray, .agg (encT n y).toArray] ++ #[] : Array Value) = #[.agg (tokF (fOf x n)), .agg (tokF (fOf y n))] := by simp [encT, packOf]
  rw [e]
  refine (cmpG_any (fOf x n) (fOf y n) _).mono ?_
  rintro e w' ⟨rfl, q, rfl⟩
  refine ⟨rfl, q, #[.cells (tokF (fOf x n)) 82, .cells (tokF (fOf y n)) 82], ?_⟩
  rw [alloc_eq_grow, alloc_eq_grow, grow_grow]
  rfl

/-- A row of packed marks. -/
def TokRow (n : Nat) (w : World) (a : Option Addr) (ds : List (List Int)) : Prop :=
  ds = [] ∨ ∃ b off, a = some ⟨b, off, none⟩ ∧ b < w.heap.size ∧ ∀ i, i < ds.length → w.rangeAt b (off + i * 16) (encT n (ds.getD i []))

theorem holdsK_range {n : Nat} {w : World} {b off : Nat} {d : Array (List Int)} (h : HoldsK (encT n) 16 w b off d) {i : Nat} (hi : i < d.size) : w.rangeAt b (off + i * 16) (encT n (d.toList.getD i [])) := by
  intro j v hv
  have hj : j < 16 := by have := (List.getElem?_eq_some_iff.1 hv).1; rwa [encT_len] at this
  have := (h.cell hi hj).1
  rw [this]
  have e : d[i]! = d.toList.getD i [] := by simp [hi]
  rw [e, ← hv, List.getElem!_eq_getElem?_getD, hv]; rfl

/-- Behind the sort: the marks in order, in the same block; all below stands. -/
theorem sortT_any (n B c : Nat) (ds : List (List Int)) (w : World) (hB : B < w.heap.size) (hH : HoldsK (encT n) 16 w B 0 ds.toArray) (hl : ds.length ≤ 400) :
    Calls Try.prog 106 #[.slice (some ⟨B, 0, none⟩) ds.length c, .func (.func 62) #[] #[]] w fun e w' =>
      e = .returned (.tuple #[]) ∧ ∃ ds', ds'.length = ds.length ∧ (∀ x, x ∈ ds' ↔ x ∈ ds) ∧ ds'.Pairwise (fun x y => ¬ cfT n y x < 0) ∧ TokRow n w' (some ⟨B, 0, none⟩) ds' ∧ Below B w w' ∧ w.heap.size ≤ w'.heap.size := by
  have eg : ∀ args w, (callFunc 62 args).run Try.prog w = .ok (.enter 62 args) w := enters_of Try.func62 (by kernel_rfl) rfl
  have hcon := AnyQ.slices_SortFunc Try.sortT 16 Try.isAgg82 Try.sizeOf82 (encT n) (encT_len n) (encT_one n) (cfT n) (swoT n) 62 #[] B 0 c ds.toArray w eg (cmpLaysT n B 0 _ w) hH hB (by simp; omega)
  rw [List.size_toArray] at hcon
  change Calls Try.prog 106 _ _ _ at hcon
  refine hcon.mono ?_
  rintro e w' ⟨rfl, d', q, os, hp, hs, rfl⟩
  have hsz : d'.size = ds.length := by simpa using hp.1
  have hperm : d'.toList.Perm ds := by
    have := hp.2.2
    rw [Array.extract_eq_self_of_le (by omega), Array.extract_eq_self_of_le (by simp)] at this
    simpa using this
  refine ⟨rfl, d'.toList, by simpa using hsz, fun x => hperm.mem_iff, ?_, ?_, ?_, size_sortWorldK_c _ _ _ _ _ _ _ _⟩
  · rw [List.pairwise_iff_getElem]
    intro i j hi hj hij
    have := hs i j (by omega) hij (by simp at hj; omega)
    rw [ltT_no] at this
    simpa [cfT, show i < d'.size by simpa using hi, show j < d'.size by simpa using hj] using this
  · by_cases h0 : d'.toList = []
    · exact .inl h0
    · have hH' := holdsK_sortWorldK_c (encT n) 16 w B 0 ds.toArray d' q os hH hB (by simpa using hsz)
      refine .inr ⟨B, 0, rfl, Nat.lt_of_lt_of_le hB (size_sortWorldK_c _ _ _ _ _ _ _ _), fun i hi => holdsK_range hH' (by simpa using hi)⟩
  · refine ⟨rfl, rfl, rfl, ?_, fun k hk => ?_⟩
    · exact size_sortWorldK_c _ _ _ _ _ _ _ _
    · unfold sortWorldK putRowK
      rw [heap_grow_old _ _ (by rw [size_putRow]; exact Nat.lt_trans hk hB)]
      simp only [putRow, mapBlock, Sort.ahead, Array.getElem?_modify]
      rw [if_neg (by omega)]
end Go.Proofs.Ytegabkegbhglfaa


/- slices.ContainsFunc over a row of packed marks, with a mark's own method covers: whether the mark covers one of them. -/
namespace Go.Proofs.Ytegabkegbhglfaa
open Go.RowKit
set_option maxRecDepth 10000

theorem TokRow.at {n k : Nat} {w : World} {a : Option Addr} {ds : List (List Int)} (h : TokRow n w a ds) (hk : k < ds.length) :
    ∃ b off, a = some ⟨b, off, none⟩ ∧ b < w.heap.size ∧ Hid (w.rangeAt b (off + k * 16) (encT n (ds.getD k []))) := by
  rcases h with rfl | ⟨b, off, e, hb, hr⟩
  · simp at hk
  · exact ⟨b, off, e, hb, hr k hk⟩

theorem rangeAt_below {w w' : World} {b o : Nat} {cs : List Value} (h : w.rangeAt b o cs) {B : Nat} (hB : b < B) (hb : Below B w w') : w'.rangeAt b o cs := fun j v hv => by
  rw [← h j v hv]
  simp only [World.cell?]
  rw [hb.block b hB]

theorem TokRow.grow {n : Nat} {w w' : World} {a : Option Addr} {ds : List (List Int)} (h : TokRow n w a ds) (hb : Below w.heap.size w w') : TokRow n w' a ds := by
  rcases h with rfl | ⟨b, off, e, hB, hr⟩
  · exact .inl rfl
  · exact .inr ⟨b, off, e, Nat.lt_of_lt_of_le hB hb.size, fun i hi => rangeAt_below (hr i hi) hB hb⟩

theorem covT_any (n : Nat) (hn : n ≤ 16) (t u : List Int) (w : World) :
    Calls Try.prog 61 #[.agg (packOf t n), .agg (encT n u).toArray] w fun e w' => BoolEnd (covL n t u) w e w' := by
  have h := cov_any (fOf t n) (fOf u n) w
  rw [covF_pad t u n hn] at h
  simpa [encT, packOf, covL] using h

/-- Where the first one is that is covered, or -1. -/
def IdxT (b : Bool) (w : World) (e : Ending) (w' : World) : Prop := ∃ z : Int, e = .returned (.int .i64 z) ∧ Hid (decide (0 ≤ z) = b) ∧ Below w.heap.size w w'

theorem any_take {ds : List (List Int)} {f : List Int → Bool} {k : Nat} (hk : k < ds.length) (h : (ds.take k).any f = false) (hf : f (ds.getD k []) = false) : (ds.take (k + 1)).any f = false := by
  rw [take_getD hk, List.any_append, h]
  simp only [List.any_cons, List.any_nil, Bool.or_false, hf]

set_option maxHeartbeats 1000000 in
theorem indexT_any (n : Nat) (hn : n ≤ 16) (a : Option Addr) (m c : Nat) (ds : List (List Int)) (t : List Int) (w : World) (h : TokRow n w a ds) (hm : ds.length = m) (hl : m ≤ 400) :
    Calls Try.prog 86 #[.slice a m c, .func (.func 61) #[.agg (packOf t n)] #[]] w fun e w' => IdxT (ds.any fun u => covL n t u) w e w' := by
  have HP := hide h
  have HM := hide hm
  clear h hm
  go_enter Try.func86, Try.ntmps86
  go_wp2_with fail
  go_loopw [8] (fun i wr => ∃ k : Nat, k ≤ m ∧ i = .int .i64 k ∧ Hid ((ds.take k).any (fun u => covL n t u) = false) ∧ Hid (Below w.heap.size w wr)) (fun i _ => m - (intOf i).toNat)
  case atStart => exact ⟨0, Nat.zero_le _, rfl, rfl, Below.refl _ _⟩
  case round =>
    obtain ⟨k, hk, rfl, hu, hbw⟩ := hrel
    by_cases hlt : k < m
    rotate_left
    · have hk' : k = m := by omega
      subst hk'
      have HE : Hid (IdxT (ds.any fun u => covL n t u) w (.returned (.int .i64 (-1))) wr) := by
        have h1 := hu.out
        rw [List.take_of_length_le (by have := HM.out; omega)] at h1
        exact ⟨-1, rfl, by rw [h1]; rfl, hbw.out⟩
      go_wp2_with fail
      go_ret
      exact HE.out
    have hlt' : k < ds.length := by have := HM.out; omega
    obtain ⟨b, off, rfl, hbs, hr⟩ := (HP.out.grow hbw.out).at hlt'
    have HH := hide (covT_any n hn t (ds.getD k []) wr)
    cases hh : covL n t (ds.getD k [])
    · have HU := hide (any_take hlt' hu.out hh)
      rw [hh] at HH
      clear hh hu hlt'
      generalize ds.getD k [] = x at *
      go_wp2_with (refine wpList_load_mid rfl 82 (.tmp 14) rfl _ _ rfl _ _ hr.out Try.underlying82 rfl (by rw [encT_len]; exact Try.size82) ?_)
      refine HH.out.mono ?_
      rintro e w1 ⟨rfl, hb⟩
      have HB := hide (hbw.out.trans (hb.mono hbw.out.size))
      clear hb HH hr
      go_wp2_with fail
      go_roundw
      case rel => exact ⟨k + 1, by omega, by go_num, HU, HB⟩
      case measure => simp [intOf]; omega
    · have HY : Hid ((ds.any fun u => covL n t u) = true) := List.any_eq_true.mpr ⟨_, getD_mem hlt', hh⟩
      rw [hh] at HH
      clear hh hu hlt'
      generalize ds.getD k [] = x at *
      go_wp2_with (refine wpList_load_mid rfl 82 (.tmp 14) rfl _ _ rfl _ _ hr.out Try.underlying82 rfl (by rw [encT_len]; exact Try.size82) ?_)
      refine HH.out.mono ?_
      rintro e w1 ⟨rfl, hb⟩
      have HE : Hid (IdxT (ds.any fun u => covL n t u) w (.returned (.int .i64 (k : Int))) w1) := ⟨k, rfl, by rw [HY.out]; simp [Hid], hbw.out.trans (hb.mono hbw.out.size)⟩
      clear hb HH hr
      go_wp2_with fail
      go_ret
      exact HE.out

set_option maxHeartbeats 400000 in
theorem containsT_any (n : Nat) (hn : n ≤ 16) (a : Option Addr) (m c : Nat) (ds : List (List Int)) (t : List Int) (w : World) (h : TokRow n w a ds) (hm : ds.length = m) (hl : m ≤ 400) :
    Calls Try.prog 107 #[.slice a m c, .func (.func 61) #[.agg (packOf t n)] #[]] w fun e w' => BoolEnd (ds.any fun u => covL n t u) w e w' := by
  have HI := hide (indexT_any n hn a m c ds t w h hm hl)
  clear h hm
  go_enter Try.func107, Try.ntmps107
  go_wp2_with fail
  refine HI.out.mono ?_
  rintro e w1 ⟨z, rfl, hz, hb⟩
  have HB := hide hb
  clear hb HI
  go_wp2_with fail
  go_ret
  exact ⟨ret_bool hz.out, HB.out⟩
end Go.Proofs.Ytegabkegbhglfaa


/- leastTokens: the marks in order, and of them those that cover none that is kept. -/
namespace Go.Proofs.Ytegabkegbhglfaa
open Go.RowKit Go.Sort
set_option maxRecDepth 10000

/-- The cells of a row of packed marks. -/
def cellsT (n : Nat) (ks : List (List Int)) : List Value := (ks.map (encT n)).flatten

theorem cellsT_cons (n : Nat) (x : List Int) (ks : List (List Int)) : cellsT n (x :: ks) = encT n x ++ cellsT n ks := by simp [cellsT]
theorem cellsT_append (n : Nat) (ks : List (List Int)) (x : List Int) : cellsT n (ks ++ [x]) = cellsT n ks ++ encT n x := by simp [cellsT]

theorem cellsT_at (n : Nat) (ks : List (List Int)) (i j : Nat) (hi : i < ks.length) (hj : j < 16) : (cellsT n ks)[i * 16 + j]? = (encT n (ks.getD i []))[j]? := by
  induction ks generalizing i with
  | nil => simp at hi
  | cons x ks ih =>
    rw [cellsT_cons]
    cases i with
    | zero => rw [List.getElem?_append_left (by rw [encT_len]; omega)]; simp
    | succ i =>
      rw [List.getElem?_append_right (by rw [encT_len]; omega), encT_len]
      have := ih i (by simpa using hi)
      rw [show (i + 1) * 16 + j - 16 = i * 16 + j by omega, this]
      simp

theorem own_tok {D n q : Nat} {v : World} {o : Value} {ks : List (List Int)} (h : v.ownsRow D 82 16 o q (cellsT n ks)) (hq : ks.length = q) : ∃ a c, o = .slice a q c ∧ TokRow n v a ks := by
  rcases h.2 with ⟨rfl, rfl⟩ | ⟨g, cap, cur, rfl, hb, hh, hnc, _, hsz, ht⟩
  · exact ⟨none, 0, rfl, .inl (List.length_eq_zero_iff.mp hq)⟩
  · refine ⟨_, cap, rfl, .inr ⟨g, 0, rfl, (Array.getElem?_eq_some_iff.mp hh).1, fun i hi => ?_⟩⟩
    intro j u hu
    have hj : j < 16 := by have := (List.getElem?_eq_some_iff.1 hu).1; rwa [encT_len] at this
    have e1 := cellsT_at n ks i j hi hj
    rw [← ht, List.getElem?_take_of_lt (by omega)] at e1
    rw [cell_of_row v g _ _ _ _ hh, Nat.zero_add, ← hu, ← e1, Array.getElem?_toList]

theorem own_grow2 {B : Nat} {e : TypeId} {s : Nat} {w w' : World} {v : Value} {n : Nat} {l : List Value} (hown : w.ownsRow B e s v n l) (hb : Below w.heap.size w w') : w'.ownsRow B e s v n l := by
  refine ⟨hown.1, ?_⟩
  rcases hown.2 with h0 | ⟨g, cap, cur, e, h1, h2, h3⟩
  · exact .inl h0
  · exact .inr ⟨g, cap, cur, e, h1, (hb.block g (Array.getElem?_eq_some_iff.mp h2).1).trans h2, h3⟩

/-- What is there while the least ones are gathered. -/
structure LtSt (D : Nat) (u v : World) (n : Nat) (o : Value) (q : Nat) (ks : List (List Int)) : Prop where
  len : ks.length = q
  own : v.ownsRow D 82 16 o q (cellsT n ks)
  bel : Below D u v
  low : D ≤ v.heap.size

theorem LtSt.grow {D n q : Nat} {u v v' : World} {o : Value} {ks : List (List Int)} (h : LtSt D u v n o q ks) (hb : Below v.heap.size v v') : LtSt D u v' n o q ks :=
  ⟨h.len, own_grow2 h.own hb, h.bel.trans (hb.mono h.low), Nat.le_trans h.low hb.size⟩

theorem LtSt.step {D n q : Nat} {u v v' : World} {o o' : Value} {ks : List (List Int)} {x : List Int} (h : LtSt D u v n o q ks) (r1 : v'.ownsRow D 82 16 o' (q + 1) (cellsT n ks ++ encT n x)) (r2 : v.grownBy v' o.ownBlock) : LtSt D u v' n o' (q + 1) (ks ++ [x]) :=
  ⟨by simp [h.len], by rw [cellsT_append]; exact r1, h.bel.grown r2 h.low fun k hk => (h.own.lt k hk).1, Nat.le_trans h.low r2.size⟩

theorem wpList_load_tok {ops : Array Oper} {rest : List Oper} {op : Oper} {a : Act} {w : World} {Q : Exit → Act → World → Prop} (hgd : op.guard = none) (x : Operand) (ho : op.op = .load 82 x)
    (b o : Nat) (hx : a.eval x = .pointer (some ⟨b, o, none⟩)) (n : Nat) (t : List Int) (hc : w.rangeAt b o (encT n t))
    (h : wpList Try.prog ops Q rest (a.put op.dst (.agg (packOf t n))) w) : wpList Try.prog ops Q (op :: rest) a w := by
  refine wpList_load_mid hgd 82 x ho b o hx (encT n t) _ hc Try.underlying82 rfl (by rw [encT_len]; exact Try.size82) ?_
  simpa [encT] using h

theorem Try.infoT : (Try.prog.info? 82).map (fun i => (i.zero, i.size, i.bytes)) = some (some (.agg #[.int .u8 0, .int .u8 0, .int .u8 0, .int .u8 0, .int .u8 0, .int .u8 0, .int .u8 0, .int .u8 0, .int .u8 0, .int .u8 0, .int .u8 0, .int .u8 0, .int .u8 0, .int .u8 0, .int .u8 0, .int .u8 0]), 16, 16) := by kernel_rfl

theorem info_splitT {P : Program} {e : TypeId} {z : Value} {size bytes : Nat} (h : (P.info? e).map (fun i => (i.zero, i.size, i.bytes)) = some (some z, size, bytes)) : ∃ i, P.info? e = some i ∧ i.zero = some z ∧ i.size = size ∧ i.bytes = bytes := by
  obtain ⟨i, hi, hzz⟩ := Option.map_eq_some_iff.1 h
  simp only [Prod.mk.injEq] at hzz
  exact ⟨i, hi, hzz.1, hzz.2.1, hzz.2.2⟩

theorem fill_tok (n : Nat) (t : List Int) (zs : Array Value) (hz : zs.size = 16) : Instr.fill (fun i => some (i * 16, 16)) zs [(0, .agg (packOf t n))] = some (packOf t n) := by
  have hs : (Value.agg (packOf t n)).cells.size = 16 := packOf_size t n
  obtain ⟨r, h1, h2, h3⟩ := Great.fill_dense (s := 16) (by omega) [.agg (packOf t n)] 0 zs (by intro v hv; obtain rfl := List.mem_singleton.mp hv; exact hs) (by simp [hz])
  have e : r = packOf t n := by
    apply Array.ext_getElem?
    intro k
    rw [h3 k]
    by_cases hk : k < 16
    · rw [if_pos (by simp; omega), Nat.div_eq_of_lt hk, Nat.mod_eq_of_lt hk]
      rfl
    · rw [if_neg (by simp; omega), Array.getElem?_eq_none (by omega), Array.getElem?_eq_none (by rw [packOf_size]; omega)]
  rw [e] at h1
  exact h1

theorem wpList_build_tok {ops : Array Oper} {rest : List Oper} {op : Oper} {a : Act} {w : World} {Q : Exit → Act → World → Prop} (hgd : op.guard = none) (x : Operand) (ho : op.op = .buildSlice 80 1 #[(0, x)])
    (n : Nat) (t : List Int) (hx : a.eval x = .agg (packOf t n))
    (h : wpList Try.prog ops Q rest (a.put op.dst (.slice (some ⟨w.heap.size, 0, none⟩) 1 1)) (w.alloc (.cells (packOf t n) 82))) : wpList Try.prog ops Q (op :: rest) a w := by
  obtain ⟨i0, hi, hz0, hz1, hz2⟩ := info_splitT Try.infoT
  refine wpList_buildSlice hgd 80 82 1 _ ho (packOf t n) i0 _ Try.underlying80 hi hz0 (by rw [hz1]; decide) (by rw [hz1]; decide) ?_ h
  rw [hz1]
  simp only [List.map_toArray, List.map_cons, List.map_nil, hx]
  exact fill_tok n t _ (by simp)

theorem tok_cells (n : Nat) (t : List Int) (w : World) : ∀ j u, (encT n t)[j]? = some u → (w.alloc (.cells (packOf t n) 82)).cell? ((⟨w.heap.size, 0, none⟩ : Addr).add j) = some u := by
  intro j u hu
  rw [Addr.add_mid, cell_of_row _ _ _ _ _ _ (heap_alloc_new w _), Nat.zero_add]
  simpa [encT] using hu

/-- How leastTokens ends. -/
def LeEnd (n B : Nat) (ds : List (List Int)) (w : World) (e : Ending) (w' : World) : Prop :=
  ∃ ds' a q c, e = .returned (.slice a q c) ∧ ds'.length = ds.length ∧ (∀ x, x ∈ ds' ↔ x ∈ ds) ∧ ds'.Pairwise (fun x y => ¬ cfT n y x < 0) ∧ (keepL n ds').length = q ∧ q ≤ ds.length ∧ TokRow n w' a (keepL n ds') ∧ Below B w w'

theorem keep_yes {n k : Nat} {D : List (List Int)} (hk : k < D.length) (h : (keepL n (D.take k)).any (fun u => covL n (D.getD k []) u) = true) : keepL n (D.take (k + 1)) = keepL n (D.take k) := by
  rw [keepL_take hk]; unfold keepStep; rw [if_pos h]
theorem keep_no {n k : Nat} {D : List (List Int)} (hk : k < D.length) (h : (keepL n (D.take k)).any (fun u => covL n (D.getD k []) u) = false) : keepL n (D.take (k + 1)) = keepL n (D.take k) ++ [D.getD k []] := by
  rw [keepL_take hk]; unfold keepStep; rw [if_neg (by rw [h]; decide)]

theorem below_box (w : World) (cs : Array Value) (o : Obj) : Below w.heap.size w ((w.alloc o).setRow w.heap.size cs) := below_setRow ((Below.refl _ _).alloc (Nat.le_refl _) _) _ (Nat.le_refl _) _

set_option maxHeartbeats 2000000 in
theorem least_any (n B m c : Nat) (hn : n ≤ 16) (ds : List (List Int)) (w : World) (hB : B < w.heap.size) (hH : HoldsK (encT n) 16 w B 0 ds.toArray) (hm : ds.length = m) (hl : m ≤ 400) :
    Calls Try.prog 57 #[.slice (some ⟨B, 0, none⟩) m c] w fun e w' => LeEnd n B ds w e w' := by
  subst hm
  have HS := hide (sortT_any n B c ds w hB hH hl)
  obtain ⟨i0, hi, hz0, hz1, hz2⟩ := info_splitT Try.infoT
  have HI := hide (And.intro hi (And.intro hz0 (And.intro hz1 hz2)))
  clear hH hi hz0 hz1 hz2
  go_enter Try.func57, Try.ntmps57
  go_wp2_with fail
  refine HS.out.mono ?_
  rintro e w1 ⟨rfl, ds', hl', hmem, hpw, hrow, hbB, hsz⟩
  obtain ⟨m, hm⟩ : ∃ m, Hid (ds.length = m) := ⟨_, rfl⟩
  rw [hm.out] at hl' hl ⊢
  have HD := hide (And.intro hl' (And.intro hmem hpw))
  have HR := hide hrow
  have HB := hide hbB
  clear HS hl' hmem hpw hrow hbB
  go_wp2_with fail
  go_loopw [3, 10] (fun o i wr => ∃ k q : Nat, k ≤ m ∧ i = .int .i64 k ∧ Hid (q ≤ k) ∧ Hid (LtSt w1.heap.size w1 wr n o q (keepL n (ds'.take k)))) (fun _ i _ => m - (intOf i).toNat)
  case atStart => exact ⟨0, 0, Nat.zero_le _, rfl, Nat.le_refl _, rfl, World.ownsRow_nil _ _ _ _, Below.refl _ _, Nat.le_refl _⟩
  case round =>
    obtain ⟨k, q, hk, rfl, hq, st⟩ := hrel
    by_cases hlt : k < m
    rotate_left
    · have hk' : k = m := by omega
      subst hk'
      have ST := st.out
      rw [List.take_of_length_le (by have := HD.out.1; omega)] at ST
      obtain ⟨a, c', rfl, hr⟩ := own_tok ST.own ST.len
      have HE : Hid (LeEnd n B ds w (.returned (.slice a q c')) wr) := ⟨ds', a, q, c', rfl, by rw [HD.out.1, hm.out], HD.out.2.1, by simpa using HD.out.2.2, ST.len, by rw [hm.out]; exact hq.out, hr, HB.out.trans (ST.bel.mono (by omega))⟩
      clear ST hr st
      go_wp2_with fail
      go_ret
      exact HE.out
    have hlt' : k < ds'.length := by have := HD.out.1; omega
    obtain ⟨b, off, eb, hbs, hr⟩ := (HR.out.grow st.out.bel).at hlt'
    obtain ⟨rfl, rfl⟩ : B = b ∧ 0 = off := by simpa using eb
    rw [Nat.zero_add] at hr
    clear eb
    have hg0 := heap_alloc_new wr (.cells #[.int .u8 0, .int .u8 0, .int .u8 0, .int .u8 0, .int .u8 0, .int .u8 0, .int .u8 0, .int .u8 0, .int .u8 0, .int .u8 0, .int .u8 0, .int .u8 0, .int .u8 0, .int .u8 0, .int .u8 0, .int .u8 0] 82)
    obtain ⟨t, ht⟩ : ∃ t, Hid (ds'.getD k [] = t) := ⟨_, rfl⟩
    rw [ht.out] at hr
    have h5 := setRow_same hg0 (packOf t n)
    have HBX := hide (below_box wr (packOf t n) (.cells #[.int .u8 0, .int .u8 0, .int .u8 0, .int .u8 0, .int .u8 0, .int .u8 0, .int .u8 0, .int .u8 0, .int .u8 0, .int .u8 0, .int .u8 0, .int .u8 0, .int .u8 0, .int .u8 0, .int .u8 0, .int .u8 0] 82))
    have ST := hide (st.out.grow HBX.out)
    obtain ⟨oa, oc, rfl, hrow⟩ := own_tok ST.out.own ST.out.len
    have HC := hide (containsT_any n hn oa q oc _ t _ hrow ST.out.len (by have := hq.out; omega))
    obtain ⟨L, hL⟩ : ∃ L, Hid (L = keepL n (ds'.take k)) := ⟨_, rfl⟩
    rw [← hL.out] at HC ST
    clear hrow st
    go_wp2_with (first
      | refine wpList_load_tok rfl (.tmp 12) rfl _ _ rfl _ _ hr.out ?_
      | refine wpList_store_row rfl 82 (.tmp 5) _ rfl _ _ rfl rfl 82 _ hg0 (by rw [packOf_size]; exact Try.size82) (by rw [packOf_size]; rfl) (packOf_one _ _) ?_
      | refine wpList_load_row rfl 82 (.tmp 5) rfl _ rfl 82 (packOf t n) (0, 0) _ h5 Try.underlying82 rfl (by rw [packOf_size]; exact Try.size82) ?_)
    refine HC.out.mono ?_
    rintro e w2 ⟨rfl, hb2⟩
    have h52 := (hb2.block wr.heap.size (Array.getElem?_eq_some_iff.mp h5).1).trans h5
    have ST2 := hide (ST.out.grow hb2)
    clear hb2 HC ST HBX h5 hg0 hr
    cases hh : L.any fun u => covL n t u
    · have HK : Hid (keepL n (ds'.take (k + 1)) = L ++ [t]) := by
        show _ = _
        rw [hL.out, ← ht.out]
        exact keep_no hlt' (by rw [ht.out, ← hL.out]; exact hh)
      have ST3 := hide (ST2.out.grow ((Below.refl w2.heap.size w2).alloc (Nat.le_refl _) (.cells (packOf t n) 82)))
      have hq4 : q ≤ 400 := by have := hq.out; omega
      have hlo : w1.heap.size ≤ w2.heap.size := ST2.out.low
      obtain ⟨hi, hz0, hz1, hz2⟩ := HI.out
      clear hh
      go_wp2_with (first
        | refine wpList_load_row rfl 82 (.tmp 5) rfl _ rfl 82 (packOf t n) (0, 0) _ h52 Try.underlying82 rfl (by rw [packOf_size]; exact Try.size82) ?_
        | refine wpList_build_tok rfl (.tmp 20) rfl n t rfl ?_
        | (at_builtin; refine wpList_append_own _ rfl (.tmp 19) (.tmp 21) 80 rfl w1.heap.size 82 i0 _ 16 16 Try.underlying80 hi hz0 hz1 hz2 rfl (by decide) _ q _ rfl ST3.out.own ⟨w2.heap.size, 0, none⟩ 1 1 (encT n t) rfl (encT_len n t) (tok_cells n t w2) (encT_one n t) (by unfold maxLen; omega) (by omega) (by simp; omega) ?_
           intro v' w3 r1 r2 _
           have ST4 := hide (ST3.out.step r1 r2)
           clear r1 r2))
      go_roundw
      case rel => exact ⟨k + 1, q + 1, by omega, by go_num, by have := hq.out; show _ ≤ _; omega, by rw [HK.out]; exact ST4⟩
      case measure => simp [intOf]; omega
    · have HK : Hid (keepL n (ds'.take (k + 1)) = L) := by
        show _ = _
        rw [hL.out]
        exact keep_yes hlt' (by rw [ht.out, ← hL.out]; exact hh)
      clear hh
      go_wp2_with fail
      go_roundw
      case rel => exact ⟨k + 1, q, by omega, by go_num, by have := hq.out; show _ ≤ _; omega, by rw [HK.out]; exact ST2⟩
      case measure => simp [intOf]; omega
end Go.Proofs.Ytegabkegbhglfaa


/- What markIntS writes, what heldIntS answers, and what the list of an array is, for slices that lie from the head of a block of their own; nothing else that was there is written. -/
namespace Go.Proofs.Ytegabkegbhglfaa
open Go.RowKit

/-- Nothing but the block b has turned, and no block is new. -/
structure Only (b : Nat) (w w' : World) : Prop where
  os : w'.os = w.os
  tape : w'.tape = w.tape
  output : w'.output = w.output
  size : w'.heap.size = w.heap.size
  block : ∀ k, k ≠ b → w'.heap[k]? = w.heap[k]?

theorem Only.refl (b : Nat) (w : World) : Only b w w := ⟨rfl, rfl, rfl, rfl, fun _ _ => rfl⟩
theorem Only.below {b B : Nat} {w w' : World} (h : Only b w w') (hb : B ≤ b) : Below B w w' := ⟨h.os, h.tape, h.output, Nat.le_of_eq h.size.symm, fun k hk => h.block k (by omega)⟩
theorem Only.setCell {b : Nat} {w w' : World} (h : Only b w w') (o : Nat) (v : Value) : Only b w (w'.setCell ⟨b, o, none⟩ v) :=
  ⟨h.os, h.tape, h.output, by rw [← h.size]; simp [World.setCell], fun k hk => (Below.heap_setCell _ _ _ _ hk).trans (h.block k hk)⟩

/-- A slice that lies from the head of the block b, as long as it is; or an empty one. -/
def Blk (w : World) (a : Option Addr) (b n : Nat) (xs : List Int) : Prop :=
  xs.length = n ∧ (n = 0 ∨ (a = some ⟨b, 0, none⟩ ∧ w.heap[b]? = some (.cells (cellsOf xs) 3 (0, 0))))

theorem Blk.row {w : World} {a : Option Addr} {b n : Nat} {xs : List Int} (h : Blk w a b n xs) : Row w a n xs := by
  rcases h.2 with h0 | ⟨e, hh⟩
  · exact ⟨h.1, .inl h0⟩
  · exact Own.row (B := 0) ⟨h.1, b, e, Nat.zero_le _, hh⟩

theorem Blk.below {w w' : World} {a : Option Addr} {b n B : Nat} {xs : List Int} (h : Blk w a b n xs) (hb : Below B w w') (hB : b < B) : Blk w' a b n xs := by
  refine ⟨h.1, ?_⟩
  rcases h.2 with h0 | ⟨e, hh⟩
  · exact .inl h0
  · exact .inr ⟨e, (hb.block b hB).trans hh⟩

theorem Blk.only {w w' : World} {a : Option Addr} {b c n : Nat} {xs : List Int} (h : Blk w a b n xs) (hb : Only c w w') (hB : b ≠ c) : Blk w' a b n xs := by
  refine ⟨h.1, ?_⟩
  rcases h.2 with h0 | ⟨e, hh⟩
  · exact .inl h0
  · exact .inr ⟨e, (hb.block b hB).trans hh⟩

/-- k, k + 1, and so on. -/
def seqL (k n : Nat) : List Int := (List.range n).map fun i => ((k + i : Nat) : Int)

theorem seqL_len (k n : Nat) : (seqL k n).length = n := by simp [seqL]
theorem seqL_at (k n i : Nat) (h : i < n) : (seqL k n).getD i 0 = ((k + i : Nat) : Int) := by simp [seqL, h]

theorem set_fill {xs : List Int} {n k : Nat} {cs : Array Value} {x : Int} (h : Fill xs n k cs) (hk : k < n) (hx : xs.getD k 0 = x) : Fill xs n (k + 1) (cs.setIfInBounds k (.int .i64 x)) := by
  obtain ⟨h1, h2⟩ := h
  refine ⟨by simp [h1], fun i hi => ?_⟩
  rw [Array.getElem?_setIfInBounds]
  by_cases e : k = i
  · subst e; rw [if_pos rfl, if_pos (by omega), hx]
  · rw [if_neg e]; exact h2 i (by omega)

/-- The first n numbers of an array. -/
def listF (f : Nat → Int) (n : Nat) : List Int := (List.range n).map f

theorem listF_len (f : Nat → Int) (n : Nat) : (listF f n).length = n := by simp [listF]
theorem listF_at (f : Nat → Int) (n i : Nat) (h : i < n) : (listF f n).getD i 0 = f i := by simp [listF, h]

set_option maxHeartbeats 400000 in
theorem list_any (f : Nat → Int) (n : Nat) (w : World) (hn : n ≤ 16) (hs : ∀ i, 0 ≤ f i ∧ f i ≤ 255) :
    Calls Try.prog 74 #[.agg (tokF f), .int .i64 (n : Int)] w fun e w' =>
      e = .returned (.slice (some ⟨w.heap.size + 1, 0, none⟩) n n) ∧ w' = (w.alloc (.cells (tokF f) 82)).alloc (.cells (cellsOf (listF f n)) 3) := by
  have hmk := run_make_row' (P := Try.prog) 30 3 (.int .i64 0) 8 Try.underlying30 Try.info3 rfl .i64 .i64 n (by omega) (by omega)
  go_enter Try.func74, Try.ntmps74
  go_wp2
  go_loopw [11] (fun i wr => ∃ k : Nat, k ≤ n ∧ i = .int .i64 k ∧ ∃ cs, Fill (listF f n) n k cs ∧ wr = (w.alloc (.cells (tokF f) 82)).alloc (.cells cs 3)) (fun i _ => n - (intOf i).toNat)
  case atStart => exact ⟨0, Nat.zero_le _, rfl, _, ⟨size_madeCells _ _, fun i hi => absurd hi (by omega)⟩, rfl⟩
  case round =>
    obtain ⟨k, hk, rfl, cs, hf, rfl⟩ := hrel
    by_cases hlt : k < n
    · have HF := hide (set_fill hf hlt (listF_at f n k hlt))
      have hsz := hf.1
      obtain ⟨v0, hv0⟩ : ∃ v0, cs[k]? = some v0 := ⟨_, Array.getElem?_eq_getElem (by omega)⟩
      have hat := tokF_at f k (by omega)
      have hx := hs k
      have hi1 : ((k : Int)) < 16 := by omega
      obtain ⟨x, hxq⟩ : ∃ x, Hid (f k = x) := ⟨_, rfl⟩
      rw [hxq.out] at hat hx HF
      clear hf hmk hs
      go_wp2
      go_roundw
      case rel => exact ⟨k + 1, by omega, by go_num, _, HF.out, rfl⟩
      case measure => simp [intOf]; omega
    · have hk' : k = n := by omega
      subst hk'
      have HF := hf.done (listF_len _ _)
      clear hmk hf
      subst HF
      go_wp2
      go_ret
      exact ⟨rfl, rfl⟩
end Go.Proofs.Ytegabkegbhglfaa


/- Nets in memory: a slice of transitions read as its lists, three a transition; how an argument is opened to that; what the size functions answer. -/
namespace Go.Proofs.Ytegabkegbhglfaa
open Go.RowKit

/-- A row of slices of integers reads as the lists L. -/
def Lists (w : World) (a : Option Addr) (n : Nat) (L : List (List Int)) : Prop :=
  L.length = n ∧ (n = 0 ∨ ∃ b off, a = some ⟨b, off, none⟩ ∧ b < w.heap.size ∧ ∀ j, j < n → ∃ a' n' c', w.cell? ⟨b, off + j, none⟩ = some (.slice a' n' c') ∧ n' ≤ maxLen ∧ Row w a' n' (L.getD j []))

theorem Lists.below {w w' : World} {a : Option Addr} {n : Nat} {L : List (List Int)} (h : Lists w a n L) (hb : Below w.heap.size w w') : Lists w' a n L := by
  refine ⟨h.1, ?_⟩
  rcases h.2 with h0 | ⟨b, off, e, hl, hc⟩
  · exact .inl h0
  · refine .inr ⟨b, off, e, Nat.lt_of_lt_of_le hl hb.size, fun j hj => ?_⟩
    obtain ⟨a', n', c', h1, h2, h3⟩ := hc j hj
    exact ⟨a', n', c', (hb.cell (p := ⟨b, off + j, none⟩) hl).trans h1, h2, h3.below hb⟩

/-- The lists of a transition lie in three cells. -/
def Tri (w : World) (b o : Nat) (a0 a1 a2 : Option Addr) (n0 n1 n2 c0 c1 c2 : Nat) (x0 x1 x2 : List Int) : Prop :=
  w.rangeAt b o [.slice a0 n0 c0, .slice a1 n1 c1, .slice a2 n2 c2] ∧ n0 ≤ maxLen ∧ n1 ≤ maxLen ∧ n2 ≤ maxLen ∧ Row w a0 n0 x0 ∧ Row w a1 n1 x1 ∧ Row w a2 n2 x2

theorem Lists.tri {w : World} {a : Option Addr} {n : Nat} {L : List (List Int)} (h : Lists w a (3 * n) L) {k : Nat} (hk : k < n) :
    ∃ b off a0 n0 c0 a1 n1 c1 a2 n2 c2, a = some ⟨b, off, none⟩ ∧ b < w.heap.size ∧ Tri w b (off + k * 3) a0 a1 a2 n0 n1 n2 c0 c1 c2 (L.getD (3 * k) []) (L.getD (3 * k + 1) []) (L.getD (3 * k + 2) []) := by
  rcases h.2 with h0 | ⟨b, off, e, hl, hc⟩
  · omega
  · obtain ⟨a0, n0, c0, h1, h2, h3⟩ := hc (3 * k) (by omega)
    obtain ⟨a1, n1, c1, h4, h5, h6⟩ := hc (3 * k + 1) (by omega)
    obtain ⟨a2, n2, c2, h7, h8, h9⟩ := hc (3 * k + 2) (by omega)
    refine ⟨b, off, a0, n0, c0, a1, n1, c1, a2, n2, c2, e, hl, ?_, h2, h5, h8, h3, h6, h9⟩
    rw [Nat.mul_comm k 3]
    intro j v hv
    match j, hv with
    | 0, hv => simp at hv; subst hv; exact h1
    | 1, hv => simp at hv; subst hv; exact h4
    | 2, hv => simp at hv; subst hv; exact h7
    | (q + 3), hv => simp at hv

theorem below_al (w : World) (o : Obj) : Below w.heap.size w (w.alloc o) := (Below.refl _ _).alloc (Nat.le_refl _) _

/-- How much the lists hold. -/
def sizeL (L : List (List Int)) : Nat := (L.map List.length).sum

def sizeN (n : Nat) (L : List (List Int)) : Nat := n + sizeL L

theorem sizeL_take_succ (L : List (List Int)) (k : Nat) (h : k < L.length) : sizeL (L.take (k + 1)) = sizeL (L.take k) + (L.getD k []).length := by
  unfold sizeL
  rw [List.take_add_one, List.getElem?_eq_getElem h, List.map_append, List.sum_append]
  simp [List.getElem?_eq_getElem h]

theorem sizeL_take_le (L : List (List Int)) (k : Nat) : sizeL (L.take k) ≤ sizeL L := by
  conv => rhs; rw [← List.take_append_drop k L]
  unfold sizeL
  rw [List.map_append, List.sum_append]
  omega

/-- What a size function answers. -/
def leftOf (left : Int) (s : Nat) : Int := if (s : Int) ≤ left then left - s else -1

theorem ret_int {a b : Int} (h : a = b) : Ending.returned (.int .i64 a) = .returned (.int .i64 b) := by rw [h]

theorem leftOf_neg {left : Int} {s : Nat} (h : leftOf left s < 0) : left < s := by
  unfold leftOf at h; split at h <;> omega
theorem leftOf_pos {left : Int} {s : Nat} (h : ¬ leftOf left s < 0) : (s : Int) ≤ left ∧ leftOf left s = left - s := by
  unfold leftOf at *; split at h <;> first | omega | (rename_i h'; rw [if_pos h']; exact ⟨h', rfl⟩)

theorem leftOf_add {left : Int} {s t : Nat} (h : ¬ leftOf left s < 0) : leftOf (leftOf left s) t = leftOf left (s + t) := by
  have ⟨h1, h2⟩ := leftOf_pos h
  rw [h2]; unfold leftOf
  by_cases h3 : (t : Int) ≤ left - s
  · rw [if_pos h3, if_pos (by omega)]; omega
  · rw [if_neg h3, if_neg (by omega)]

theorem leftOf_neg_add {left : Int} {s : Nat} (t : Nat) (h : leftOf left s < 0) : leftOf left (s + t) = -1 := by
  have := leftOf_neg h
  unfold leftOf; rw [if_neg (by omega)]

theorem rangeAt_cells3 {w : World} {b o : Nat} {v0 v1 v2 : Value} (h : w.rangeAt b o [v0, v1, v2]) : w.cell? ⟨b, o, none⟩ = some v0 ∧ w.cell? ⟨b, o + 1, none⟩ = some v1 ∧ w.cell? ⟨b, o + 2, none⟩ = some v2 :=
  ⟨h 0 _ rfl, h 1 _ rfl, h 2 _ rfl⟩

end Go.Proofs.Ytegabkegbhglfaa


/- What toTrans, toTransS and toNet make: a net of the same lists, all in blocks of their own; and what eqTrans, eqTransS and eqNet answer. -/
namespace Go.Proofs.Ytegabkegbhglfaa
open Go.RowKit

/-- Three lists in blocks of their own. -/
def Tri3 (w w' : World) (e : Ending) (x0 x1 x2 : List Int) : Prop :=
  ∃ b0 b1 b2, e = .returned (.agg #[.slice (some ⟨b0, 0, none⟩) x0.length x0.length, .slice (some ⟨b1, 0, none⟩) x1.length x1.length, .slice (some ⟨b2, 0, none⟩) x2.length x2.length]) ∧ w.heap.size ≤ b0 ∧ b0 < b1 ∧ b1 < b2 ∧ b2 < w'.heap.size ∧
    w'.heap[b0]? = some (.cells (cellsOf x0) 3 (0, 0)) ∧ w'.heap[b1]? = some (.cells (cellsOf x1) 3 (0, 0)) ∧ w'.heap[b2]? = some (.cells (cellsOf x2) 3 (0, 0)) ∧ Below w.heap.size w w'

theorem heap_al_old (w : World) (o : Obj) (k : Nat) (h : k < w.heap.size) : (w.alloc o).heap[k]? = w.heap[k]? := (below_al w o).block k h

theorem tri3_of (w v : World) (x0 x1 x2 : List Int) (hb : Below w.heap.size w v) :
    Tri3 w (((v.alloc (.cells (cellsOf x0) 3)).alloc (.cells (cellsOf x1) 3)).alloc (.cells (cellsOf x2) 3)) (.returned (.agg #[.slice (some ⟨v.heap.size, 0, none⟩) x0.length x0.length, .slice (some ⟨v.heap.size + 1, 0, none⟩) x1.length x1.length, .slice (some ⟨v.heap.size + 1 + 1, 0, none⟩) x2.length x2.length])) x0 x1 x2 := by
  have hs := hb.size
  refine ⟨_, _, _, rfl, hs, by omega, by omega, by simp, ?_, ?_, ?_, ?_⟩
  · rw [heap_al_old _ _ _ (by simp; omega), heap_al_old _ _ _ (by simp)]; exact heap_alloc_new _ _
  · rw [heap_al_old _ _ _ (by simp)]
    have := heap_alloc_new (v.alloc (.cells (cellsOf x0) 3)) (.cells (cellsOf x1) 3)
    simpa using this
  · have := heap_alloc_new ((v.alloc (.cells (cellsOf x0) 3)).alloc (.cells (cellsOf x1) 3)) (.cells (cellsOf x2) 3)
    simpa using this
  · exact ((hb.alloc hs _).alloc (by simp; omega) _).alloc (by simp; omega) _

theorem run_make_many {P : Program} (t e : TypeId) (z : Value) (size bytes : Nat) (ht : P.underlying t = some (.slice e)) (hinfo : (P.info? e).map (fun i => (i.zero, i.size, i.bytes)) = some (some z, size, bytes))
    (kl kc : IntKind) (n : Nat) (hbytes : bytes * n ≤ 281474976710656) (h63 : n ≤ 9223372036854775807) (w : World) :
    (Instr.makeSlice t (.int kl (n : Int)) (.int kc (n : Int))).run P w = .ok (.slice (some ⟨w.heap.size, 0, none⟩) n n) (w.alloc (.cells (madeCells z.cells (n * size)) e)) := by
  obtain ⟨i, hi, hzz⟩ := Option.map_eq_some_iff.1 hinfo
  simp only [Prod.mk.injEq] at hzz
  obtain ⟨hz, hs, hb⟩ := hzz
  have hb' : (i.bytes : Int) * (n : Int) ≤ 281474976710656 := by
    rw [hb]
    have h : ((bytes * n : Nat) : Int) ≤ 281474976710656 := by omega
    rwa [Int.natCast_mul] at h
  have hr := run_make (P := P) w t e i z ht hi hz kl kc n n (by omega) (Int.le_refl _) hb' (by omega)
  simp only [Int.toNat_natCast, hs] at hr
  exact hr

theorem Try.info126 : (Try.prog.info? 126).map (fun i => (i.zero, i.size, i.bytes)) = some (some (.agg #[.slice none 0 0, .slice none 0 0, .slice none 0 0]), 3, 72) := by kernel_rfl

/-- The first k of n lists lie in blocks of their own, rising, behind the block B that leads to them. -/
def PartL (w : World) (B n k : Nat) (T : TypeId) (L : List (List Int)) : Prop :=
  ∃ (C : Array Value) (f : Nat → Nat), w.heap[B]? = some (.cells C T (0, 0)) ∧ C.size = n ∧
    (∀ j, j < k → C[j]? = some (.slice (some ⟨f j, 0, none⟩) (L.getD j []).length (L.getD j []).length) ∧ B < f j ∧ w.heap[f j]? = some (.cells (cellsOf (L.getD j [])) 3 (0, 0))) ∧
    (∀ i j, i < j → j < k → f i < f j)

theorem PartL.grow {w w' : World} {B n k : Nat} {T : TypeId} {L : List (List Int)} (h : PartL w B n k T L) (hb : Below w.heap.size w w') : PartL w' B n k T L := by
  obtain ⟨C, f, h1, h2, h3, h4⟩ := h
  refine ⟨C, f, (hb.block B (Array.getElem?_eq_some_iff.mp h1).1).trans h1, h2, fun j hj => ?_, h4⟩
  obtain ⟨e1, e2, e3⟩ := h3 j hj
  exact ⟨e1, e2, (hb.block _ (Array.getElem?_eq_some_iff.mp e3).1).trans e3⟩

theorem heap_set3_same {w : World} {B o : Nat} {C : Array Value} {T : TypeId} (h : w.heap[B]? = some (.cells C T (0, 0))) (v0 v1 v2 : Value) :
    (w.setCells B o [v0, v1, v2]).heap[B]? = some (.cells (((C.setIfInBounds o v0).setIfInBounds (o + 1) v1).setIfInBounds (o + 1 + 1) v2) T (0, 0)) := by
  simp only [World.setCells]
  exact heap_setCell_same _ _ _ _ _ _ (heap_setCell_same _ _ _ _ _ _ (heap_setCell_same _ _ _ _ _ _ h))

theorem heap_set3_other (w : World) (B o k : Nat) (v0 v1 v2 : Value) (h : k ≠ B) : (w.setCells B o [v0, v1, v2]).heap[k]? = w.heap[k]? := by
  simp only [World.setCells]
  rw [Below.heap_setCell _ _ _ _ h, Below.heap_setCell _ _ _ _ h, Below.heap_setCell _ _ _ _ h]

theorem size_set3 (w : World) (B o : Nat) (v0 v1 v2 : Value) : (w.setCells B o [v0, v1, v2]).heap.size = w.heap.size := by simp [World.setCells, World.setCell]

theorem below_set3 {D : Nat} {a w : World} (h : Below D a w) {B : Nat} (hB : D ≤ B) (o : Nat) (v0 v1 v2 : Value) : Below D a (w.setCells B o [v0, v1, v2]) := by
  simp only [World.setCells]
  exact ((h.setCell (p := ⟨B, o, none⟩) hB v0).setCell (p := ⟨B, o + 1, none⟩) hB v1).setCell (p := ⟨B, o + 1 + 1, none⟩) hB v2

theorem there_of_row {w : World} {B o m : Nat} {C : Array Value} {T : TypeId} (h : w.heap[B]? = some (.cells C T (0, 0))) (hm : o + m ≤ C.size) : w.there B o m := fun j hj =>
  ⟨by rw [cell_of_row w B (o + j) C T _ h, Array.getElem?_eq_getElem (by omega)]; rfl, frozen_of_row w B (o + j) C _ h⟩

theorem wpList_store3 {P : Program} {ops : Array Oper} {rest : List Oper} {op : Oper} {a : Act} {w : World} {Q : Exit → Act → World → Prop} (hgd : op.guard = none) (ty : TypeId) (x y : Operand) (ho : op.op = .store ty x y)
    (b o : Nat) (v0 v1 v2 : Value) (hx : a.eval x = .pointer (some ⟨b, o, none⟩)) (hy : a.eval y = .agg #[v0, v1, v2]) (ht : w.there b o 3) (hi : (P.info? ty).map (·.size) = some 3) (h0 : v0.oneCell' = true) (h1 : v1.oneCell' = true) (h2 : v2.oneCell' = true)
    (h : wpList P ops Q rest (a.put op.dst undef) (w.setCells b o [v0, v1, v2])) : wpList P ops Q (op :: rest) a w :=
  wpList_store_mid hgd ty x y ho b o #[v0, v1, v2] hx hy ht hi (by simp [h0, h1, h2]) h

theorem Try.size126 : (Try.prog.info? 126).map (·.size) = some 3 := by kernel_rfl

theorem PartL.step {v w : World} {B n k b0 b1 b2 : Nat} {T : TypeId} {L : List (List Int)} {x0 x1 x2 : List Int} (h : PartL v B (3 * n) (3 * k) T L) (hk : k < n) (hb : Below v.heap.size v w)
    (h0 : v.heap.size ≤ b0) (h01 : b0 < b1) (h12 : b1 < b2) (g0 : w.heap[b0]? = some (.cells (cellsOf x0) 3 (0, 0))) (g1 : w.heap[b1]? = some (.cells (cellsOf x1) 3 (0, 0))) (g2 : w.heap[b2]? = some (.cells (cellsOf x2) 3 (0, 0)))
    (e0 : L.getD (3 * k) [] = x0) (e1 : L.getD (3 * k + 1) [] = x1) (e2 : L.getD (3 * k + 2) [] = x2) :
    PartL (w.setCells B (k * 3) [.slice (some ⟨b0, 0, none⟩) x0.length x0.length, .slice (some ⟨b1, 0, none⟩) x1.length x1.length, .slice (some ⟨b2, 0, none⟩) x2.length x2.length]) B (3 * n) (3 * (k + 1)) T L := by
  obtain ⟨C, f, h1, h2, h3, h4⟩ := h
  have hB := (Array.getElem?_eq_some_iff.mp h1).1
  have hold : ∀ j, j < 3 * k → f j < v.heap.size := fun j hj => (Array.getElem?_eq_some_iff.mp (h3 j hj).2.2).1
  refine ⟨_, fun j => if j < 3 * k then f j else if j = 3 * k then b0 else if j = 3 * k + 1 then b1 else b2, heap_set3_same ((hb.block B hB).trans h1) _ _ _, by simp [h2], fun j hj => ?_, fun i j hij hj => ?_⟩
  · by_cases hj3 : j < 3 * k
    · obtain ⟨q1, q2, q3⟩ := h3 j hj3
      simp only [if_pos hj3]
      refine ⟨?_, q2, ?_⟩
      · rw [Array.getElem?_setIfInBounds_ne (by omega), Array.getElem?_setIfInBounds_ne (by omega), Array.getElem?_setIfInBounds_ne (by omega)]; exact q1
      · rw [heap_set3_other _ _ _ _ _ _ _ (by omega)]; exact (hb.block _ (hold j hj3)).trans q3
    · simp only [if_neg hj3]
      obtain rfl | rfl | rfl : j = 3 * k ∨ j = 3 * k + 1 ∨ j = 3 * k + 2 := by omega
      · rw [if_pos rfl, e0]
        refine ⟨?_, by omega, ?_⟩
        · rw [Array.getElem?_setIfInBounds_ne (by omega), Array.getElem?_setIfInBounds_ne (by omega), Array.getElem?_setIfInBounds, if_pos (by omega), if_pos (by omega)]
        · rw [heap_set3_other _ _ _ _ _ _ _ (by omega)]; exact g0
      · rw [if_neg (by omega), if_pos rfl, e1]
        refine ⟨?_, by omega, ?_⟩
        · rw [Array.getElem?_setIfInBounds_ne (by omega), Array.getElem?_setIfInBounds, if_pos (by omega), if_pos (by simp; omega)]
        · rw [heap_set3_other _ _ _ _ _ _ _ (by omega)]; exact g1
      · rw [if_neg (by omega), if_neg (by omega), e2]
        refine ⟨?_, by omega, ?_⟩
        · rw [Array.getElem?_setIfInBounds, if_pos (by omega), if_pos (by simp; omega)]
        · rw [heap_set3_other _ _ _ _ _ _ _ (by omega)]; exact g2
  · have := h4 i j hij
    by_cases hi3 : i < 3 * k
    · have := hold i hi3
      simp only [if_pos hi3]
      repeat' split
      all_goals omega
    · simp only [if_neg hi3, if_neg (show ¬ j < 3 * k by omega)]
      repeat' split
      all_goals omega

theorem len_le (L : List (List Int)) (j : Nat) : (L.getD j []).length ≤ sizeL L := by
  by_cases h : j < L.length
  · have h1 := sizeL_take_succ L j h
    have h2 := sizeL_take_le L (j + 1)
    omega
  · simp [List.getD_eq_getElem?_getD, List.getElem?_eq_none (show L.length ≤ j by omega)]

end Go.Proofs.Ytegabkegbhglfaa


/- What toNet makes, and that eqTrans, eqTransS and eqNet answer true for nets that read the same. -/
namespace Go.Proofs.Ytegabkegbhglfaa
open Go.RowKit

theorem PartL.lists {w : World} {B n : Nat} {T : TypeId} {L : List (List Int)} (h : PartL w B (3 * n) (3 * n) T L) (hl : L.length = 3 * n) (hs : sizeN n L ≤ 1048576) : Lists w (some ⟨B, 0, none⟩) (3 * n) L := by
  obtain ⟨C, f, h1, h2, h3, h4⟩ := h
  refine ⟨hl, .inr ⟨B, 0, rfl, (Array.getElem?_eq_some_iff.mp h1).1, fun j hj => ?_⟩⟩
  obtain ⟨e1, e2, e3⟩ := h3 j hj
  refine ⟨_, _, _, by rw [cell_of_row w B (0 + j) C T _ h1, Nat.zero_add]; exact e1, ?_, Own.row (B := 0) ⟨rfl, _, rfl, Nat.zero_le _, e3⟩⟩
  have := len_le L j
  unfold sizeN at hs; unfold maxLen; omega

theorem PartL.set_low {w : World} {B n k g : Nat} {T : TypeId} {L : List (List Int)} (h : PartL w B n k T L) (hg : g < B) (o : Nat) (v : Value) : PartL (w.setCell ⟨g, o, none⟩ v) B n k T L := by
  obtain ⟨C, f, h1, h2, h3, h4⟩ := h
  refine ⟨C, f, (Below.heap_setCell _ _ _ _ (show B ≠ g by omega)).trans h1, h2, fun j hj => ?_, h4⟩
  obtain ⟨e1, e2, e3⟩ := h3 j hj
  exact ⟨e1, e2, (Below.heap_setCell _ _ _ _ (show f j ≠ g by omega)).trans e3⟩

theorem below_drew2 (w : World) (o1 o2 : Obj) (q : Nat) : Below w.heap.size w (((w.alloc o1).alloc o2).drewN q) := (below_two w _ _).trans ((below_drewN' _ _).mono (by simp; omega))

end Go.Proofs.Ytegabkegbhglfaa


/- What markTransS and markNet write: the lists of a net that lies in blocks of its own, one behind the other; nothing else. -/
namespace Go.Proofs.Ytegabkegbhglfaa
open Go.RowKit

/-- Lists by their number, each in a block of its own between B and hi. -/
def PartF (w : World) (B hi n : Nat) (T : TypeId) (M : Nat → List Int) : Prop :=
  ∃ (C : Array Value) (f : Nat → Nat), w.heap[B]? = some (.cells C T (0, 0)) ∧ C.size = n ∧
    (∀ j, j < n → C[j]? = some (.slice (some ⟨f j, 0, none⟩) (M j).length (M j).length) ∧ B < f j ∧ f j < hi ∧ Blk w (some ⟨f j, 0, none⟩) (f j) (M j).length (M j)) ∧
    (∀ i j, i < j → j < n → f i < f j)

theorem PartL.bound {w : World} {B n : Nat} {T : TypeId} {L : List (List Int)} (h : PartL w B n n T L) : PartF w B w.heap.size n T (fun j => L.getD j []) := by
  obtain ⟨C, f, h1, h2, h3, h4⟩ := h
  refine ⟨C, f, h1, h2, fun j hj => ?_, h4⟩
  obtain ⟨e1, e2, e3⟩ := h3 j hj
  exact ⟨e1, e2, (Array.getElem?_eq_some_iff.mp e3).1, rfl, .inr ⟨rfl, e3⟩⟩

/-- Below lo all stands, and from hi on what was there. -/
structure Keeps (lo hi : Nat) (w w' : World) : Prop where
  bel : Below lo w w'
  top : ∀ k, hi ≤ k → k < w.heap.size → w'.heap[k]? = w.heap[k]?

theorem Keeps.refl (lo hi : Nat) (w : World) : Keeps lo hi w w := ⟨Below.refl _ _, fun _ _ _ => rfl⟩
theorem Keeps.trans {lo hi : Nat} {u v w : World} (h : Keeps lo hi u v) (g : Keeps lo hi v w) : Keeps lo hi u w :=
  ⟨h.bel.trans g.bel, fun k h1 h2 => (g.top k h1 (Nat.lt_of_lt_of_le h2 h.bel.size)).trans (h.top k h1 h2)⟩
theorem Keeps.of_only {lo hi b : Nat} {w w' : World} (h : Only b w w') (h1 : lo ≤ b) (h2 : b < hi) : Keeps lo hi w w' :=
  ⟨h.below h1, fun k hk _ => h.block k (by omega)⟩
theorem Keeps.of_below {lo hi : Nat} {w w' : World} (h : Below w.heap.size w w') (hl : lo ≤ w.heap.size) : Keeps lo hi w w' :=
  ⟨h.mono hl, fun k _ hk => h.block k hk⟩

theorem Blk.keeps {w w' : World} {a : Option Addr} {b n lo hi : Nat} {xs : List Int} (h : Blk w a b n xs) (hk : Keeps lo hi w w') (hb : hi ≤ b) : Blk w' a b n xs := by
  refine ⟨h.1, ?_⟩
  rcases h.2 with h0 | ⟨e, hh⟩
  · exact .inl h0
  · exact .inr ⟨e, (hk.top b hb (Array.getElem?_eq_some_iff.mp hh).1).trans hh⟩

theorem Blk.grow' {w w' : World} {a : Option Addr} {b n : Nat} {xs : List Int} (h : Blk w a b n xs) (hb : Below w.heap.size w w') : Blk w' a b n xs := by
  refine ⟨h.1, ?_⟩
  rcases h.2 with h0 | ⟨e, hh⟩
  · exact .inl h0
  · exact .inr ⟨e, (hb.block b (Array.getElem?_eq_some_iff.mp hh).1).trans hh⟩

theorem PartF.grow {w w' : World} {B hi n : Nat} {T : TypeId} {M : Nat → List Int} (h : PartF w B hi n T M) (hb : Below w.heap.size w w') : PartF w' B hi n T M := by
  obtain ⟨C, f, h1, h2, h3, h4⟩ := h
  refine ⟨C, f, (hb.block B (Array.getElem?_eq_some_iff.mp h1).1).trans h1, h2, fun j hj => ?_, h4⟩
  obtain ⟨e1, e2, e3, e4⟩ := h3 j hj
  exact ⟨e1, e2, e3, e4.grow' hb⟩

def updF (M : Nat → List Int) (j : Nat) (l : List Int) : Nat → List Int := fun i => if i = j then l else M i

theorem PartF.one {w : World} {B hi n : Nat} {T : TypeId} {M : Nat → List Int} (h : PartF w B hi n T M) {j : Nat} (hj : j < n) :
    ∃ b, w.cell? ⟨B, j, none⟩ = some (.slice (some ⟨b, 0, none⟩) (M j).length (M j).length) ∧ B < b ∧ b < hi ∧ Blk w (some ⟨b, 0, none⟩) b (M j).length (M j) ∧
      ∀ w' l, Blk w' (some ⟨b, 0, none⟩) b (M j).length l → Only b w w' → PartF w' B hi n T (updF M j l) := by
  obtain ⟨C, f, h1, h2, h3, h4⟩ := h
  obtain ⟨e1, e2, e3, e4⟩ := h3 j hj
  refine ⟨f j, by rw [cell_of_row w B j C T _ h1]; exact e1, e2, e3, e4, fun w' l hb ho => ?_⟩
  refine ⟨C, f, (ho.block B (by omega)).trans h1, h2, fun i hi' => ?_, h4⟩
  unfold updF
  by_cases hij : i = j
  · subst hij
    rw [if_pos rfl, hb.1]
    exact ⟨e1, e2, e3, hb⟩
  · rw [if_neg hij]
    obtain ⟨q1, q2, q3, q4⟩ := h3 i hi'
    have hne : f i ≠ f j := by
      rcases Nat.lt_or_gt_of_ne hij with h | h
      · have := h4 i j h hj; omega
      · have := h4 j i h hi'; omega
    exact ⟨q1, q2, q3, q4.only ho hne⟩

/-- How much the first k lists hold. -/
def cntF (M : Nat → List Int) : Nat → Nat
  | 0 => 0
  | k + 1 => cntF M k + (M k).length

theorem cntF_congr {M N : Nat → List Int} {k : Nat} (h : ∀ j, j < k → (M j).length = (N j).length) : cntF M k = cntF N k := by
  induction k with
  | zero => rfl
  | succ k ih => simp only [cntF]; rw [ih fun j hj => h j (by omega), h k (by omega)]

theorem cntF_mono {M : Nat → List Int} {j k : Nat} (h : j ≤ k) : cntF M j ≤ cntF M k := by
  induction k with
  | zero => have : j = 0 := by omega
            subst this; exact Nat.le_refl _
  | succ k ih =>
    by_cases e : j = k + 1
    · subst e; exact Nat.le_refl _
    · have := ih (by omega); simp only [cntF]; omega

/-- The first q lists are marked, from k0 on. -/
def markedF (k0 : Nat) (M : Nat → List Int) (q : Nat) : Nat → List Int := fun j => if j < q then seqL (k0 + cntF M j) (M j).length else M j

theorem markedF_len (k0 : Nat) (M : Nat → List Int) (q j : Nat) : (markedF k0 M q j).length = (M j).length := by
  unfold markedF; split
  · exact seqL_len _ _
  · rfl

theorem markedF_step (k0 : Nat) (M : Nat → List Int) (q : Nat) : updF (markedF k0 M q) q (seqL (k0 + cntF M q) (M q).length) = markedF k0 M (q + 1) := by
  funext j
  unfold updF markedF
  by_cases e : j = q
  · subst e; rw [if_pos rfl, if_pos (by omega)]
  · rw [if_neg e]
    by_cases h : j < q
    · rw [if_pos h, if_pos (by omega)]
    · rw [if_neg h, if_neg (by omega)]

theorem mark_step {w : World} {B hi n k0 q : Nat} {T : TypeId} {M : Nat → List Int} (h : PartF w B hi n T (markedF k0 M q)) (hq : q < n) (o : Nat) (ho : o = q) :
    ∃ b ln, Hid ((M q).length = ln) ∧ w.cell? ⟨B, o, none⟩ = some (.slice (some ⟨b, 0, none⟩) ln ln) ∧ Hid (Blk w (some ⟨b, 0, none⟩) b ln (M q)) ∧
      Hid (∀ w', Blk w' (some ⟨b, 0, none⟩) b ln (seqL (k0 + cntF M q) ln) → Only b w w' → PartF w' B hi n T (markedF k0 M (q + 1)) ∧ Keeps (B + 1) hi w w') := by
  obtain ⟨b, h1, h2, h3, h4, h5⟩ := h.one hq
  have e : markedF k0 M q q = M q := by unfold markedF; rw [if_neg (by omega)]
  rw [e] at h1 h4 h5
  subst ho
  refine ⟨b, _, rfl, h1, h4, fun w' hb ho => ⟨?_, Keeps.of_only ho (by omega) h3⟩⟩
  have := h5 w' _ hb ho
  rwa [markedF_step] at this

end Go.Proofs.Ytegabkegbhglfaa


/- How a net that comes in is opened: a number and a slice whose lists can be read. -/
namespace Go.Proofs.Ytegabkegbhglfaa
open Go.ChangeShapes Go.WideShapes Go.ChangeAt Go.RowKit Go.Deep Go.Joins

theorem row_of_ints {H : Type} {enc : TypeId × Value → H} {W : World} {base fuel : Nat} {v : Value} {x : DataW H × List MemPlace} (h : DataW.trod enc Try.prog W base (fun _ => true) true fuel 30 [v] = some x) :
    ∃ a n c xs, v = .slice a n c ∧ n ≤ maxLen ∧ Row W a n xs := by
  rcases open_ints Try.underlying30 Try.underlying3 (by kernel_rfl) h with ⟨hcs, _⟩ | ⟨y, l, c, zs, hcs, _, hl, hm, hz, _, hcell, _⟩
  · simp at hcs
    exact ⟨none, 0, 0, [], hcs, Nat.zero_le _, rfl, .inl rfl⟩
  · simp at hcs
    refine ⟨some y, l, c, zs.take l, hcs, by omega, ?_, ?_⟩
    · rw [List.length_take]; simp at hz; omega
    · by_cases h0 : l = 0
      · exact .inl h0
      · simp at hz
        obtain ⟨b, off, spot⟩ := y
        have hc := hcell 0 (by omega)
        have hspot : spot = none := by simpa [Addr.add] using World.cell?_spot hc
        subst hspot
        refine .inr ⟨b, off, rfl, ?_, fun i hi => ?_⟩
        · have := block_lt_of_cell hc; simpa [Addr.add] using this
        · have := hcell i (by omega)
          rw [List.getD_eq_getElem?_getD, List.getElem?_take_of_lt hi, ← List.getD_eq_getElem?_getD]
          rw [Addr.add_mid] at this
          exact this

theorem keep {v v' : World} {b : Nat} {C : Array Value} {t : TypeId} (h : v.heap[b]? = some (.cells C t (0, 0))) (hb : Below v.heap.size v v') : v'.heap[b]? = some (.cells C t (0, 0)) :=
  (hb.block b (Array.getElem?_eq_some_iff.mp h).1).trans h

theorem cells2 {v : World} {b : Nat} {x y : Value} {t : TypeId} (h : v.heap[b]? = some (.cells #[x, y] t (0, 0))) : v.cell? ⟨b, 0, none⟩ = some x ∧ v.cell? ⟨b, 1, none⟩ = some y :=
  ⟨cell_of_row v b 0 _ _ _ h, cell_of_row v b 1 _ _ _ h⟩

theorem row_lt {v : World} {b : Nat} {C : Array Value} {t : TypeId} (h : v.heap[b]? = some (.cells C t (0, 0))) : b < v.heap.size := (Array.getElem?_eq_some_iff.mp h).1
end Go.Proofs.Ytegabkegbhglfaa
