/- Contracts that the proof stands on, one behind the other. -/
import Derived.Test.YtdhnhpjcoeglmaaP15
import Derived.ArgAppend
import Derived.BigQuiet
import Derived.Deep.RegionHeld3
/- The specification's l4Way: far from the end backwards, then the nearest one forward. -/
namespace Go.Proofs.Ytdhnhpjcoeglmaa
open Go.RowKit
set_option maxRecDepth 10000

/-- A row of numbers by a function. -/
def FarR (w : World) (g N : Nat) (f : Nat → Int) : Prop := OutR w g N (listF f N)

theorem FarR.grow {w w' : World} {g N : Nat} {f : Nat → Int} (h : FarR w g N f) (hb : Below w.heap.size w w') : FarR w' g N f := OutR.grow h hb

theorem listF_setF (f : Nat → Int) {y N : Nat} (v : Int) : (listF f N).set y v = listF (setF f y v) N := by
  apply List.ext_getElem?
  intro i
  unfold listF
  rw [List.getElem?_set]
  by_cases e : y = i
  · subst e
    rw [if_pos rfl]
    by_cases hy : y < N
    · rw [if_pos (by simpa using hy)]; simp [hy, setF_same]
    · rw [if_neg (by simpa using hy)]; simp [hy]
  · rw [if_neg e]
    simp only [List.getElem?_map]
    by_cases hi : i < N
    · rw [List.getElem?_range hi]; simp only [Option.map_some]; rw [setF_ne _ _ (fun h => e h.symm)]
    · rw [List.getElem?_eq_none (by simpa using hi)]; rfl

theorem FarR.set {w : World} {g N : Nat} {f : Nat → Int} (h : FarR w g N f) {y : Nat} (hy : y < N) (v : Int) : FarR (w.setCell ⟨g, y, none⟩ (.int .i64 v)) g N (setF f y v) := by
  unfold FarR; rw [← listF_setF]; exact OutR.set h y hy v

theorem FarR.at {w : World} {g N : Nat} {f : Nat → Int} (h : FarR w g N f) {y : Nat} (hy : y < N) : w.cell? ⟨g, y, none⟩ = some (.int .i64 (f y)) ∧ w.frozen? ⟨g, y, none⟩ = false ∧ g < w.heap.size := by
  obtain ⟨hle, cur, hh, hcs, hcell⟩ := h
  refine ⟨?_, frozen_of_row w g y cur _ hh, (Array.getElem?_eq_some_iff.mp hh).1⟩
  rw [cell_of_row w g y cur _ _ hh, hcell y hy, listF_at _ _ _ hy]

theorem FarR.far {w : World} {g N b o : Nat} {f : Nat → Int} {u : Value} (h : FarR w g N f) (hb : g ≠ b) : FarR (w.setCell ⟨b, o, none⟩ u) g N f := by
  obtain ⟨hle, cur, hh, hcs⟩ := h
  exact ⟨hle, cur, (heap_setCell_other _ _ _ _ (show g ≠ b from hb)).trans hh, hcs⟩

/-- A slice of numbers that may lie anywhere in a block of the call's own. -/
def TailR (w : World) (B : Nat) (v : Value) (l : List Nat) : Prop :=
  ∃ b off cap cur, v = .slice (some ⟨b, off, none⟩) l.length cap ∧ B ≤ b ∧ w.heap[b]? = some (.cells cur 3 (0, 0)) ∧ l.length ≤ cap ∧ off + cap ≤ cur.size ∧ ∀ j, j < l.length → cur[off + j]? = some (.int .i64 ((l.getD j 0 : Nat) : Int))

theorem TailR.grow {w w' : World} {B : Nat} {v : Value} {l : List Nat} (h : TailR w B v l) (hb : Below w.heap.size w w') : TailR w' B v l := by
  obtain ⟨b, off, cap, cur, e, h1, h2, h3⟩ := h
  exact ⟨b, off, cap, cur, e, h1, (hb.block b (Array.getElem?_eq_some_iff.mp h2).1).trans h2, h3⟩

theorem TailR.far {w : World} {B g o : Nat} {u : Value} {v : Value} {l : List Nat} (h : TailR w B v l) (hg : g < B) : TailR (w.setCell ⟨g, o, none⟩ u) B v l := by
  obtain ⟨b, off, cap, cur, e, h1, h2, h3⟩ := h
  exact ⟨b, off, cap, cur, e, h1, (heap_setCell_other _ _ _ _ (show b ≠ g by omega)).trans h2, h3⟩

theorem cells3J {w : World} {b : Nat} {v0 v1 v2 : Value} {T : TypeId} (h : w.heap[b]? = some (.cells #[v0, v1, v2] T (0, 0))) : w.cell? ⟨b, 0, none⟩ = some v0 ∧ w.cell? ⟨b, 1, none⟩ = some v1 ∧ w.cell? ⟨b, 2, none⟩ = some v2 :=
  ⟨cell_of_row w b 0 _ _ _ h, cell_of_row w b 1 _ _ _ h, cell_of_row w b 2 _ _ _ h⟩

theorem outF_madeJ (w : World) (N : Nat) : FarR (w.alloc (.cells (madeCells #[.int .i64 0] N) 3)) w.heap.size N (fun i => if i < 0 then -1 else 0) := by
  refine ⟨listF_len _ _, _, heap_alloc_new _ _, by rw [size_madeCells]; omega, fun i hi => ?_⟩
  rw [listF_at _ _ _ hi, if_neg (by omega)]
  unfold madeCells
  simp [hi, Nat.mod_one]

theorem dp_le (ar : Arcs) : ∀ (f j : Nat), dpA ar f j ≤ f := by
  intro f
  induction f with
  | zero => intro j; simp [dpA]
  | succ f ih =>
    intro j
    unfold dpA
    split
    · omega
    · have := ih (parA ar j); omega

theorem own_lowJ {w : World} {B C n : Nat} {v : Value} {T : TypeId} {xs : List Value} (h : w.ownsRow B T 1 v n xs) (hC : C ≤ B) : w.ownsRow C T 1 v n xs := by
  refine ⟨h.1, ?_⟩
  rcases h.2 with h0 | ⟨g, cap, cur, e, a1, a2⟩
  · exact .inl h0
  · exact .inr ⟨g, cap, cur, e, by omega, a2⟩

theorem own_growJ {B : Nat} {w w' : World} {v : Value} {n : Nat} {T : TypeId} {l : List Value} (hown : w.ownsRow B T 1 v n l) (hb : Below w.heap.size w w') : w'.ownsRow B T 1 v n l := by
  refine ⟨hown.1, ?_⟩
  rcases hown.2 with h0 | ⟨g, cap, cur, e, h1, h2, h3⟩
  · exact .inl h0
  · exact .inr ⟨g, cap, cur, e, h1, (hb.block g (Array.getElem?_eq_some_iff.mp h2).1).trans h2, h3⟩

/-- What lies below a row of the call's own stays when that row grows. -/
theorem own_belowJ {B : Nat} {w w' : World} {v : Value} {n : Nat} {T : TypeId} {l : List Value} (hown : w.ownsRow B T 1 v n l) (hg : w.grownBy w' v.ownBlock) : Below B w w' ∨ w.heap.size < B := by
  by_cases hB : B ≤ w.heap.size
  · left
    refine (Below.refl _ _).grown hg hB fun k hk => ?_
    rcases hown.2 with ⟨rfl, _⟩ | ⟨g, cap, cur, rfl, hb, _⟩
    · simp [Value.ownBlock] at hk
    · simp [Value.ownBlock] at hk; omega
  · right; omega

theorem own_otherJ {w w' : World} {B n q : Nat} {v : Value} {T U : TypeId} {xs : List Value} {C : Array Value} (hown : w.ownsRow B T 1 v n xs) (hg : w.grownBy w' v.ownBlock) (hq : w.heap[q]? = some (.cells C U (0, 0))) (hTU : T ≠ U) : w'.heap[q]? = some (.cells C U (0, 0)) := by
  rw [hg.block q (Array.getElem?_eq_some_iff.mp hq).1 ?_]; exact hq
  intro hh
  rcases hown.2 with ⟨rfl, _⟩ | ⟨g, cap, cur, rfl, _, b2, _⟩
  · simp [Value.ownBlock] at hh
  · simp [Value.ownBlock] at hh
    subst hh
    rw [hq] at b2
    simp at b2
    exact hTU b2.2.symm

theorem FarR.low {w w' : World} {g N B : Nat} {f : Nat → Int} (h : FarR w g N f) (hb : Below B w w') (hg : g < B) : FarR w' g N f := by
  obtain ⟨hle, cur, hh, hcs⟩ := h
  exact ⟨hle, cur, (hb.block g hg).trans hh, hcs⟩

/-- How many of a row's numbers are below zero. -/
def negN (f : Nat → Int) : Nat → Nat
  | 0 => 0
  | k + 1 => negN f k + (if f k < 0 then 1 else 0)
def negW (w : World) (g : Nat) : Nat → Nat
  | 0 => 0
  | k + 1 => negW w g k + (match w.cell? ⟨g, k, none⟩ with | some (.int .i64 x) => (if x < 0 then 1 else 0) | _ => 0)

theorem negW_eq {w : World} {g N : Nat} {f : Nat → Int} (h : FarR w g N f) : negW w g N = negN f N := by
  have key : ∀ m, m ≤ N → negW w g m = negN f m := by
    intro m
    induction m with
    | zero => intro _; rfl
    | succ k ih =>
      intro hm
      show negW w g k + (match w.cell? ⟨g, k, none⟩ with | some (.int .i64 x) => (if x < 0 then 1 else 0) | _ => 0) = negN f k + (if f k < 0 then 1 else 0)
      rw [ih (by omega), (h.at (show k < N by omega)).1]
  exact key N (Nat.le_refl _)

theorem negN_set {f : Nat → Int} {y N : Nat} {v : Int} (hy : y < N) (h1 : f y < 0) (h2 : 0 ≤ v) : negN (setF f y v) N + 1 = negN f N := by
  have key : ∀ m, negN (setF f y v) m + (if y < m then 1 else 0) = negN f m := by
    intro m
    induction m with
    | zero => rfl
    | succ m ih =>
      show (negN (setF f y v) m + (if setF f y v m < 0 then 1 else 0)) + (if y < m + 1 then 1 else 0) = negN f m + (if f m < 0 then 1 else 0)
      by_cases e : m = y
      · subst e
        rw [if_neg (show ¬ m < m by omega)] at ih
        rw [setF_same, if_neg (show ¬ v < 0 by omega), if_pos (show m < m + 1 by omega), if_pos h1]
        omega
      · rw [setF_ne _ _ e]
        by_cases hm : y < m
        · rw [if_pos hm] at ih; rw [if_pos (show y < m + 1 by omega)]; omega
        · rw [if_neg hm] at ih; rw [if_neg (show ¬ y < m + 1 by omega)]; omega
  have := key N
  rw [if_pos hy] at this
  exact this

theorem TailR.room {w : World} {B b off cap : Nat} {cur : Array Value} {l : List Nat} {x : Nat} (hB : B ≤ b) (hh : w.heap[b]? = some (.cells cur 3 (0, 0))) (hc : l.length + 1 ≤ cap) (hs : off + cap ≤ cur.size) (hcell : ∀ j, j < l.length → cur[off + j]? = some (.int .i64 ((l.getD j 0 : Nat) : Int))) :
    TailR (w.setCell ⟨b, off + l.length, none⟩ (.int .i64 (x : Int))) B (.slice (some ⟨b, off, none⟩) (l.length + 1) cap) (l ++ [x]) := by
  refine ⟨b, off, cap, _, by simp, hB, heap_setCell_same w b _ cur _ _ hh, by simpa using hc, by simpa using hs, fun j hj => ?_⟩
  rw [Array.getElem?_setIfInBounds]
  by_cases e : off + l.length = off + j
  · have e' : j = l.length := by omega
    subst e'
    rw [if_pos rfl, if_pos (by omega), List.getD_eq_getElem?_getD, List.getElem?_append_right (Nat.le_refl _)]
    simp
  · have hj' : j < l.length := by simp at hj; omega
    rw [if_neg e, hcell j hj', List.getD_eq_getElem?_getD, List.getD_eq_getElem?_getD, List.getElem?_append_left hj']

theorem TailR.fresh {w : World} {B C n : Nat} {v : Value} {l : List Nat} (h : w.ownsRow C 3 1 v n (l.map fun (t : Nat) => Value.int .i64 (t : Int))) (hn : 0 < n) (hB : B ≤ C) : TailR w B v l := by
  have hl : l.length = n := by have := h.1; simp at this; omega
  rcases h.2 with ⟨_, h0⟩ | ⟨g, cap, cur, rfl, hb, hh, hnc, _, hsz, ht⟩
  · omega
  · refine ⟨g, 0, cap, cur, by rw [hl], by omega, hh, by omega, by omega, fun j hj => ?_⟩
    have e : (cur.toList.take (n * 1))[j]? = (l.map fun (t : Nat) => Value.int .i64 (t : Int))[j]? := by rw [ht]
    rw [List.getElem?_take_of_lt (by omega), Array.getElem?_toList] at e
    rw [Nat.zero_add, e]
    simp [List.getElem?_eq_getElem hj, List.getD_eq_getElem?_getD]

theorem negN_le (f : Nat → Int) (N : Nat) : negN f N ≤ N := by
  induction N with
  | zero => exact Nat.le_refl _
  | succ k ih =>
    show negN f k + (if f k < 0 then 1 else 0) ≤ k + 1
    split <;> omega

def lenV : Value → Nat
  | .slice _ n _ => n
  | _ => 0

set_option maxHeartbeats 8000000 in
theorem way_any (B N K tgt : Nat) (ma aa : Option Addr) (mc ac : Nat) (ar : List (Nat × Nat × Nat)) (w : World) (ha : w.ownsRow B 66 3 (.slice aa K ac) K (arcsL ar)) (hK : K = ar.length) (hK9 : K ≤ 9600) (hN : N ≤ 400) (hto : tgt < N) (htree : TreeOk N ar) (harc : ∀ x ∈ ar, x.1 < N ∧ x.2.1 < 24 ∧ x.2.2 < N) (hroot : OnP ar N tgt 0) :
    Calls Try.prog 130 #[.agg #[.slice ma N mc, .slice aa K ac], .int .i64 (tgt : Int)] w fun e w' => ∃ v, e = .returned v ∧ w'.ownsRow w.heap.size 3 1 v (wayL ar tgt).length ((wayL ar tgt).map fun (t : Nat) => Value.int .i64 (t : Int)) ∧ Below w.heap.size w w' := by
  have hmk := run_make_many (P := Try.prog) 31 3 (.int .i64 0) 1 8 Try.underlying31 Try.info3 .i64 .i64 N (by omega) (by omega)
  simp only [Value.cells, Nat.mul_one] at hmk
  have hA := below_al w (.cells #[.slice ma N mc, .slice aa K ac] 61)
  have HV := hide (heap_alloc_new w (.cells #[.slice ma N mc, .slice aa K ac] 61))
  have HB := hide hA
  have HA := hide ha
  have HT := hide htree
  have HARC := hide harc
  have HRT := hide hroot
  have HKK := hide hK
  clear ha htree harc hroot hA hK
  go_enter Try.func130, Try.ntmps130
  go_wp2_with fail
  have hvs : Hid ((w.alloc (.cells #[.slice ma N mc, .slice aa K ac] 61)).heap.size = w.heap.size + 1) := by show _ = _; simp
  generalize w.alloc (.cells #[.slice ma N mc, .slice aa K ac] 61) = v at *
  have HO := hide (outF_madeJ v N)
  rw [hvs.out] at HO
  have hA := below_al v (.cells (madeCells #[.int .i64 0] N) 3)
  have HW := hide (HB.out.trans (hA.mono HB.out.size))
  have HV1 := hide (keep HV.out hA)
  generalize v.alloc (.cells (madeCells #[.int .i64 0] N) 3) = v1 at *
  obtain ⟨g, hg⟩ : ∃ g, Hid (w.heap.size + 1 = g) := ⟨_, rfl⟩
  have hgw : w.heap.size < g := by have := hg.out; omega
  rw [hg.out] at HO ⊢
  clear hmk hA HB HV hg hvs v
  go_loopw [21] (fun i wr => ∃ k : Nat, k ≤ N ∧ i = .int .i64 k ∧ Hid (FarR wr g N (fun i => if i < k then -1 else 0)) ∧ Hid (wr.heap[w.heap.size]? = some (.cells #[.slice ma N mc, .slice aa K ac] 61 (0, 0))) ∧ Hid (Below w.heap.size w wr)) (fun i _ => N - (intOf i).toNat)
  case atStart => exact ⟨0, Nat.zero_le _, rfl, HO, HV1, HW⟩
  case round =>
    obtain ⟨k, hk, rfl, ho, hv, hbw⟩ := hrel
    clear HO HV1 HW
    by_cases hkn : k < N
    · obtain ⟨hcy, hfr, hgl⟩ := ho.out.at hkn
      have HN := hide (ho.out.set hkn (-1))
      have HN2 : Hid (FarR (wr.setCell ⟨g, k, none⟩ (.int .i64 (-1))) g N (fun i => if i < k + 1 then -1 else 0)) := by
        show FarR _ _ _ _
        have e : (fun i => if i < k + 1 then (-1 : Int) else 0) = setF (fun i => if i < k then -1 else 0) k (-1) := by
          funext i
          show (if i < k + 1 then (-1 : Int) else 0) = (if i = k then -1 else (if i < k then -1 else 0))
          by_cases h1 : i = k
          · subst h1; rw [if_pos (by omega), if_pos rfl]
          · rw [if_neg h1]; by_cases h2 : i < k
            · rw [if_pos h2, if_pos (by omega)]
            · rw [if_neg h2, if_neg (by omega)]
        rw [e]; exact HN.out
      have HBN := hide (hbw.out.setCell (p := ⟨g, k, none⟩) (by show w.heap.size ≤ g; omega) (.int .i64 (-1)))
      have HVN := hide ((heap_setCell_other wr ⟨g, k, none⟩ w.heap.size (.int .i64 (-1)) (show w.heap.size ≠ g by omega)).trans hv.out)
      obtain ⟨y, hyy⟩ : ∃ y, Hid ((if k < k then (-1 : Int) else 0) = y) := ⟨_, rfl⟩
      simp only [hyy.out] at hcy
      clear ho hv hbw HN hyy
      go_wp2_with fail
      go_roundw
      case rel => exact ⟨k + 1, by omega, by go_num, HN2, HVN, HBN⟩
      case measure => simp [intOf]; omega
    have hk' : N = k := by omega
    subst hk'
    have hto0 : (tgt : Int) < (N : Int) := by omega
    obtain ⟨hcy, hfr, hgl⟩ := ho.out.at hto
    simp only [if_pos hto] at hcy
    have HF0 : Hid (FarR (wr.setCell ⟨g, tgt, none⟩ (.int .i64 0)) g N (setF (fun _ => -1) tgt 0)) := by
      have h1 := ho.out.set hto 0
      show FarR _ _ _ _
      have e : listF (setF (fun i => if i < N then (-1 : Int) else 0) tgt 0) N = listF (setF (fun _ => -1) tgt 0) N := by
        unfold listF
        exact List.map_congr_left fun i hi => by
          unfold setF
          by_cases h1 : i = tgt
          · rw [if_pos h1, if_pos h1]
          · rw [if_neg h1, if_neg h1]; exact if_pos (List.mem_range.mp hi)
      unfold FarR at h1 ⊢
      rw [← e]; exact h1
    have HB0 := hide (hbw.out.setCell (p := ⟨g, tgt, none⟩) (by show w.heap.size ≤ g; omega) (.int .i64 0))
    have HV0 := hide ((heap_setCell_other wr ⟨g, tgt, none⟩ w.heap.size (.int .i64 0) (show w.heap.size ≠ g by omega)).trans hv.out)
    have hszz : (wr.setCell ⟨g, tgt, none⟩ (.int .i64 0)).heap.size = wr.heap.size := by simp [World.setCell]
    clear ho hv hbw
    go_wp2_with fail
    rw [← hszz] at hgl ⊢
    clear hcy hfr
    generalize wr.setCell ⟨g, tgt, none⟩ (.int .i64 0) = W0 at *
    have hA := below_al W0 (.cells #[.int .i64 (tgt : Int)] 3)
    have HR1 : Hid (TailR (W0.alloc (.cells #[.int .i64 (tgt : Int)] 3)) (g + 1) (.slice (some ⟨W0.heap.size, 0, none⟩) 1 1) [tgt]) :=
      ⟨W0.heap.size, 0, 1, _, rfl, by omega, heap_alloc_new _ _, Nat.le_refl _, Nat.le_refl _, fun j hj => by
        have : j = 0 := by simp at hj; omega
        subst this; rfl⟩
    have HF1 := hide (HF0.out.grow hA)
    have HB1 := hide (HB0.out.trans (hA.mono HB0.out.size))
    have HV1 := hide (keep HV0.out hA)
    have HST := hide (BfSt.start (ar := ar) hto)
    have HSM : Hid (2 * negN (setF (fun _ => -1) tgt 0) N + [tgt].length ≤ 2 * N ∧ ∀ i, setF (fun _ => -1) tgt 0 i + (negN (setF (fun _ => -1) tgt 0) N : Int) ≤ (N : Int)) := by
      have h1 := negN_set (f := fun _ => (-1 : Int)) (v := 0) hto (by decide) (by decide)
      have h2 := negN_le (fun _ => (-1 : Int)) N
      refine ⟨by simp; omega, fun i => ?_⟩
      by_cases h : i = tgt
      · subst h; rw [setF_same]; omega
      · rw [setF_ne _ _ h]; show (-1 : Int) + _ ≤ _; omega
    generalize W0.alloc (.cells #[.int .i64 (tgt : Int)] 3) = W1 at *
    generalize W0.heap.size = b0 at *
    clear hszz hA HF0 HB0 HV0 hto0 hgl
    obtain ⟨i0, hi, hz0, hz1, hz2⟩ := info_split Try.info3
    go_loopw [7] (fun o wr => ∃ (f : Nat → Int) (R : List Nat) (D : Nat → Prop), Hid (BfSt N ar tgt f R D) ∧ Hid (2 * negN f N + R.length ≤ 2 * N ∧ ∀ i, f i + (negN f N : Int) ≤ (N : Int)) ∧ Hid (TailR wr (g + 1) o R) ∧ Hid (FarR wr g N f) ∧ Hid (wr.heap[w.heap.size]? = some (.cells #[.slice ma N mc, .slice aa K ac] 61 (0, 0))) ∧ Hid (Below w.heap.size w wr)) (fun o wr => 2 * negW wr g N + lenV o)
    case atStart => exact ⟨_, _, _, HST, HSM, HR1, HF1, HV1, HB1⟩
    case round =>
      obtain ⟨f, R, D, hst, hsm, htl, hfa, hv, hbw⟩ := hrel
      clear HST HSM HR1 HF1 HV1 HB1
      have HM0 := hide (negW_eq hfa.out)
      obtain ⟨b, off, cap, cur, rfl, hBb, hhb, hlc, hoc, hcl⟩ := htl.out
      cases R with
      | cons x r =>
        have hxl : (0 : Int) < (((x :: r).length : Nat) : Int) := by simp
        have hc0 := cell_of_row wr b (off + 0) cur _ _ hhb
        rw [hcl 0 (by simp)] at hc0
        simp only [Nat.add_zero, List.getD_cons_zero] at hc0
        have hbl := (Array.getElem?_eq_some_iff.mp hhb).1
        obtain ⟨nn, hnn⟩ : ∃ nn : Nat, Hid ((x :: r).length = nn) := ⟨_, rfl⟩
        have hn0 : 0 < nn := by have := hnn.out; simp at this; omega
        have hn1 : (0 : Int) < (nn : Int) := by omega
        have hncap : nn ≤ cap := by have := hnn.out; omega
        rw [hnn.out]
        have hrl : nn - 1 = r.length := by have := hnn.out; simp at this; omega
        have hcl' : ∀ j, j < r.length → cur[off + 1 + j]? = some (.int .i64 ((r.getD j 0 : Nat) : Int)) := fun j hj => by
          have := hcl (j + 1) (by simp; omega)
          rw [List.getD_cons_succ] at this
          rw [← this]; congr 1; omega
        have HPOP := hide hst.out.pop
        obtain ⟨M, hM⟩ : ∃ M, Hid (2 * negW wr g N + lenV (.slice (some ⟨b, off, none⟩) nn cap) = M) := ⟨_, rfl⟩
        have hMv : M = 2 * negN f N + nn := by rw [← hM.out, HM0.out]; rfl
        have hM2 : M ≤ 800 := by have h1 := hsm.out.1; have h2 := hnn.out; rw [h2] at h1; omega
        have hMB : Hid (M ≤ 2 * N) := by show _ ≤ _; have h1 := hsm.out.1; have h2 := hnn.out; rw [h2] at h1; omega
        have HM1 : Hid (2 * negN f N + r.length < M ∧ ∀ i, f i + (negN f N : Int) ≤ (N : Int)) := ⟨by rw [hMv]; omega, hsm.out.2⟩
        clear hMv hsm
        obtain ⟨hv0, hv1⟩ := cells2 hv.out
        have hvl := row_lt hv.out
        clear hxl htl hst
        have HTL : Hid (∀ (offX lenX capX : Nat), (lenX = nn - 1 ∧ ((cap = 1 ∧ offX = off ∧ capX = 0) ∨ (cap ≠ 1 ∧ offX = off + 1 ∧ capX = cap - 1))) → TailR wr (g + 1) (.slice (some ⟨b, offX, none⟩) lenX capX) r) := fun offX lenX capX hh => by
          rcases hh with ⟨rfl, ⟨h1, rfl, rfl⟩ | ⟨h1, rfl, rfl⟩⟩
          · exact ⟨b, offX, 0, cur, by rw [hrl], hBb, hhb, by omega, by omega, fun j hj => by omega⟩
          · exact ⟨b, off + 1, cap - 1, cur, by rw [hrl], hBb, hhb, by omega, by omega, hcl'⟩
        have HRL := hide hrl
        clear hhb hcl hoc hlc hcl' hrl hBb
        have hxN := HPOP.out.here.2
        by_cases hcap1 : cap = 1
        all_goals
          try subst hcap1
          go_wp2_with fail
          clear hc0 hv0 hv1
          go_loopw [7, 44] (fun o i wq => ∃ (c : Nat) (f : Nat → Int) (r : List Nat), c ≤ K ∧ i = .int .i64 c ∧ Hid (BfIn N ar tgt f r D x c) ∧ Hid (2 * negN f N + r.length < M ∧ ∀ i, f i + (negN f N : Int) ≤ (N : Int)) ∧ Hid (TailR wq (g + 1) o r) ∧ Hid (FarR wq g N f) ∧ Hid (wq.heap[w.heap.size]? = some (.cells #[.slice ma N mc, .slice aa K ac] 61 (0, 0))) ∧ Hid (Below w.heap.size w wq)) (fun _ i _ => K - (intOf i).toNat)
          case atStart => exact ⟨0, f, r, Nat.zero_le _, rfl, HPOP, HM1, HTL.out _ _ _ ⟨by omega, by first | exact .inl ⟨by trivial, rfl, rfl⟩ | exact .inr ⟨by omega, rfl, rfl⟩⟩, hfa, hv, hbw⟩
          case round =>
            obtain ⟨c, f, r, hc, rfl, hin, hms, htl, hfa, hv, hbw⟩ := hrel
            by_cases hcK : c < K
            · obtain ⟨u, bb, z, hxy, hmem⟩ := arc_get (show c < ar.length by rw [← HKK.out]; exact hcK)
              obtain ⟨ga, hag, q0, q1, q2⟩ := arcs_at (ownsRow_kept HA.out fun gg hgg => hbw.out.block gg (own_lt HA.out hgg).2) hcK hxy
              subst hag
              have hgal := World.block_lt_of_cell? _ _ q0
              obtain ⟨hu, hbb, hzN⟩ : u < N ∧ bb < 24 ∧ z < N := HARC.out _ hmem
              have hgd : ar.getD c a0 = (u, bb, z) := by rw [List.getD_eq_getElem?_getD, hxy]; rfl
              have hcKi : (c : Int) < (K : Int) := by omega
              have hc96 : (c : Int) ≤ 9600 := by omega
              have hA := below_al wr (.cells #[.int .i64 (u : Int), .int .i64 (bb : Int), .int .i64 (z : Int)] 66)
              have HTA := hide (htl.out.grow hA)
              have HFA := hide (hfa.out.grow hA)
              have HVA := hide (keep hv.out hA)
              have HBA := hide (hbw.out.trans (hA.mono hbw.out.size))
              by_cases hz : z = x
              rotate_left
              · have hd : ((z : Int) == (x : Int)) = false := by simp; omega
                have HN := hide (hin.out.skip (by rw [hgd]; exact fun h => hz h.1))
                clear hxy hmem hgd hA htl hfa hv hbw hin
                go_wp2_with fail
                go_roundw
                case rel => exact ⟨c + 1, f, r, by omega, by go_num, HN, hms, HTA, HFA, HVA, HBA⟩
                case measure => simp [intOf]; omega
              obtain rfl : x = z := hz.symm
              have hd : ((x : Int) == (x : Int)) = true := by simp
              obtain ⟨hcy, hfr, hgl⟩ := hfa.out.at hu
              have hui : (u : Int) < (N : Int) := by omega
              by_cases hneg : f u < 0
              rotate_left
              · have HN := hide (hin.out.skip (by rw [hgd]; exact fun h => hneg h.2))
                obtain ⟨y, hy⟩ : ∃ y, Hid (f u = y) := ⟨_, rfl⟩
                rw [hy.out] at hcy hneg
                have hneg' : ¬ y < 0 := hneg
                clear hxy hmem hgd hA htl hfa hv hbw hin hneg hy
                go_wp2_with fail
                go_roundw
                case rel => exact ⟨c + 1, f, r, by omega, by go_num, HN, hms, HTA, HFA, HVA, HBA⟩
                case measure => simp [intOf]; omega
              have hneg' : f u < 0 := hneg
              have HN := hin.out.put (show c < ar.length by rw [← HKK.out]; exact hcK) (by rw [hgd]; exact hu) (by rw [hgd]) (by rw [hgd]; exact hneg)
              rw [hgd] at HN
              have HN := hide HN
              obtain ⟨hcx, _, _⟩ := hfa.out.at hxN
              have hx0 := hin.out.here.1
              have hns := negN_set (f := f) (v := f x + 1) hu hneg (by omega)
              have hfx : f x ≤ 400 := by have := hms.out.2 x; omega
              have HMS2 : Hid (2 * negN (setF f u (f x + 1)) N + (r ++ [u]).length < M ∧ ∀ i, setF f u (f x + 1) i + (negN (setF f u (f x + 1)) N : Int) ≤ (N : Int)) := by
                refine ⟨by have := hms.out.1; simp; omega, fun i => ?_⟩
                have h1 := hms.out.2 x
                have h2 := hms.out.2 i
                by_cases h : i = u
                · subst h; rw [setF_same]; omega
                · rw [setF_ne _ _ h]; omega
              have hrlen : r.length ≤ 800 := by have := hms.out.1; omega
              obtain ⟨y, hy⟩ : ∃ y, Hid (f u = y) := ⟨_, rfl⟩
              obtain ⟨fx, hfxx⟩ : ∃ t, Hid (f x = t) := ⟨_, rfl⟩
              rw [hy.out] at hcy hneg'
              rw [hfxx.out] at hcx hx0 hfx HN HMS2
              have hxi : (x : Int) < (N : Int) := by omega
              obtain ⟨w1, hw1⟩ : ∃ w1, Hid (wr.alloc (.cells #[.int .i64 (u : Int), .int .i64 (bb : Int), .int .i64 (x : Int)] 66) = w1) := ⟨_, rfl⟩
              have hcy1 := (hA.cell hgl).trans hcy
              have hcx1 := (hA.cell hgl).trans hcx
              have hq1 := heap_alloc_new wr (.cells #[.int .i64 (u : Int), .int .i64 (bb : Int), .int .i64 (x : Int)] 66)
              have hgl1 : g < (wr.alloc (.cells #[.int .i64 (u : Int), .int .i64 (bb : Int), .int .i64 (x : Int)] 66)).heap.size := by have := hA.size; omega
              have hfr1 : (wr.alloc (.cells #[.int .i64 (u : Int), .int .i64 (bb : Int), .int .i64 (x : Int)] 66)).frozen? ⟨g, u, none⟩ = false := (HFA.out.at hu).2.1
              have HF2 := hide (HFA.out.set hu (fx + 1))
              have HT2 := hide (HTA.out.far (o := u) (u := .int .i64 (fx + 1)) (show g < g + 1 by omega))
              have HB2 := hide (HBA.out.setCell (p := ⟨g, u, none⟩) (by show w.heap.size ≤ g; omega) (.int .i64 (fx + 1)))
              have HV2 := hide ((heap_setCell_other _ ⟨g, u, none⟩ w.heap.size (.int .i64 (fx + 1)) (show w.heap.size ≠ g by omega)).trans HVA.out)
              obtain ⟨hc30, hc31, hc32⟩ := cells3J hq1
              have hql := (Array.getElem?_eq_some_iff.mp hq1).1
              have HQ2 := hide ((heap_setCell_other _ ⟨g, u, none⟩ wr.heap.size (.int .i64 (fx + 1)) (show wr.heap.size ≠ g by omega)).trans hq1)
              clear hxy hmem hgd htl hfa hv hbw hin hneg hy hfxx hms HTA HFA HVA HBA hd
              go_wp2_with fail
              rw [hw1.out] at *
              clear HTL hfr hcx hcy hns hui hc96 hgal hcKi q0 q1 q2
              obtain ⟨W2, hW2⟩ : ∃ W2, Hid ((w1.setCell ⟨g, u, none⟩ (.int .i64 (fx + 1))).drew = W2) := ⟨_, rfl⟩
              have HF3 : Hid (FarR W2 g N (setF f u (fx + 1))) := by show FarR _ _ _ _; rw [← hW2.out]; exact HF2.out
              have HT3 : Hid (TailR W2 (g + 1) u7 r) := by show TailR _ _ _ _; rw [← hW2.out]; exact HT2.out
              have HB3 : Hid (Below w.heap.size w W2) := by show Below _ _ _; rw [← hW2.out]; exact HB2.out.drew
              have HV3 : Hid (W2.heap[w.heap.size]? = some (.cells #[.slice ma N mc, .slice (some ⟨ga, 0, none⟩) K ac] 61 (0, 0))) := by show _ = _; rw [← hW2.out]; exact HV2.out
              have HQ3 : Hid (W2.heap[wr.heap.size]? = some (.cells #[.int .i64 (u : Int), .int .i64 (bb : Int), .int .i64 (x : Int)] 66 (0, 0))) := by show _ = _; rw [← hW2.out]; exact HQ2.out
              go_region
              rw [hW2.out]
              clear HF2 HT2 HB2 HV2 HQ2 hcy1 hcx1 hq1 hgl1 hfr1 hc30 hc31 hc32 hql hW2 hw1 w1
              obtain ⟨b2, off2, cap2, cur2, rfl, hBb2, hh2, hl2, hs2, hc2⟩ := HT3.out
              obtain ⟨hc30, hc31, hc32⟩ := cells3J HQ3.out
              have hql := (Array.getElem?_eq_some_iff.mp HQ3.out).1
              have hA := below_al W2 (.cells #[.int .i64 (u : Int)] 3)
              have hh3 := (hA.block b2 (Array.getElem?_eq_some_iff.mp hh2).1).trans hh2
              have HF4 := hide (HF3.out.grow hA)
              have HB4 := hide (HB3.out.trans (hA.mono HB3.out.size))
              have HV4 := hide (keep HV3.out hA)
              have hg2 : g < W2.heap.size := (HF3.out.at hu).2.2
              obtain ⟨rl, hrl2⟩ : ∃ n, Hid (r.length = n) := ⟨_, rfl⟩
              have HLO : Hid ((r.map fun (t : Nat) => Value.int .i64 (t : Int)).length = rl * 1) := by show _ = _; rw [← hrl2.out]; simp
              have HOLD : Hid (∀ j v, (r.map fun (t : Nat) => Value.int .i64 (t : Int))[j]? = some v → (W2.alloc (.cells #[.int .i64 (u : Int)] 3)).cell? ⟨b2, off2 + j, none⟩ = some v) := fun j v hjv => by
                rw [cell_of_row _ b2 (off2 + j) cur2 _ _ hh3]
                have hj : j < r.length := by
                  rcases Nat.lt_or_ge j r.length with h | h
                  · exact h
                  · rw [List.getElem?_eq_none (by simpa using h)] at hjv; cases hjv
                rw [hc2 j hj, ← hjv]
                simp [List.getElem?_eq_getElem hj, List.getD_eq_getElem?_getD]
              have HCE : Hid (∀ j v, ([.int .i64 (u : Int)] : List Value)[j]? = some v → (W2.alloc (.cells #[.int .i64 (u : Int)] 3)).cell? ((⟨W2.heap.size, 0, none⟩ : Addr).add j) = some v) := one_cell W2 _
              have H1c : Hid (∀ v ∈ ([.int .i64 (u : Int)] : List Value), v.oneCell' = true) := fun v hv => by simp at hv; subst hv; rfl
              have HSP : Hid (rl + 1 ≤ cap2 → ∀ j, j < ([.int .i64 (u : Int)] : List Value).length → ((W2.alloc (.cells #[.int .i64 (u : Int)] 3)).cell? ⟨b2, off2 + rl * 1 + j, none⟩).isSome = true ∧ (W2.alloc (.cells #[.int .i64 (u : Int)] 3)).frozen? ⟨b2, off2 + rl * 1 + j, none⟩ = false) := fun hr j hj => by
                have hj0 : j = 0 := by simp at hj; omega
                subst hj0
                refine ⟨?_, frozen_of_row _ b2 _ cur2 _ hh3⟩
                rw [cell_of_row _ b2 _ cur2 _ _ hh3, Array.getElem?_eq_getElem (by omega)]; rfl
              have HX := hide (show rl + 1 ≤ maxLen by have := hrl2.out; unfold maxLen; omega)
              have HY := hide (show (rl + 1) * 8 ≤ 140737488355328 by have := hrl2.out; omega)
              have HTROOM : Hid (rl + 1 ≤ cap2 → TailR ((W2.alloc (.cells #[.int .i64 (u : Int)] 3)).setCells b2 (off2 + rl) [.int .i64 (u : Int)]) (g + 1) (.slice (some ⟨b2, off2, none⟩) (rl + 1) cap2) (r ++ [u])) := fun hr => by
                rw [← hrl2.out]
                exact TailR.room hBb2 hh3 (by rw [hrl2.out]; exact hr) hs2 hc2
              have HFROOM : Hid (FarR ((W2.alloc (.cells #[.int .i64 (u : Int)] 3)).setCells b2 (off2 + rl) [.int .i64 (u : Int)]) g N (setF f u (fx + 1))) := HF4.out.far (by omega)
              have HBROOM : Hid (Below w.heap.size w ((W2.alloc (.cells #[.int .i64 (u : Int)] 3)).setCells b2 (off2 + rl) [.int .i64 (u : Int)])) := by
                show Below _ _ _
                exact below_setCells HB4.out b2 (off2 + rl) (by omega) _
              have HVROOM : Hid (((W2.alloc (.cells #[.int .i64 (u : Int)] 3)).setCells b2 (off2 + rl) [.int .i64 (u : Int)]).heap[w.heap.size]? = some (.cells #[.slice ma N mc, .slice (some ⟨ga, 0, none⟩) K ac] 61 (0, 0))) := (heap_setCell_other _ _ _ _ (show w.heap.size ≠ b2 by omega)).trans HV4.out
              have hW3s : Hid ((W2.alloc (.cells #[.int .i64 (u : Int)] 3)).heap.size = W2.heap.size + 1) := by show _ = _; simp
              rw [hrl2.out]
              clear HF3 HT3 HB3 HV3 HQ3 hh2 hl2 hs2 hc2 hh3 hA hBb2 hu
              go_wp2_with (refine wpList_append_arg _ rfl (.tmp 69) (.tmp 72) 31 rfl 3 i0 (.int .i64 0) 1 8 Try.underlying31 hi hz0 hz1 hz2 rfl (by decide) b2 off2 rl cap2 (r.map fun (t : Nat) => Value.int .i64 (t : Int)) rfl HLO.out HOLD.out ⟨_, 0, none⟩ 1 1 [.int .i64 (u : Int)] rfl rfl HCE.out H1c.out HSP.out HX.out HY.out (fun hroom => ?_) (fun hgrow v' w' r1 r2 => ?_))
              · have HT5 := hide (HTROOM.out hroom)
                clear HTROOM HLO HOLD HCE H1c HSP HX HY
                go_wp2_with fail
                go_roundw
                case rel => exact ⟨c + 1, _, _, by omega, by go_num, HN, HMS2, HT5, HFROOM, HVROOM, HBROOM⟩
                case measure => simp [intOf]; omega
              · have hbg : Below (W2.alloc (.cells #[.int .i64 (u : Int)] 3)).heap.size (W2.alloc (.cells #[.int .i64 (u : Int)] 3)) w' := (Below.refl _ _).grown r2 (Nat.le_refl _) (fun k hk => by cases hk)
                have HT5 : Hid (TailR w' (g + 1) v' (r ++ [u])) := by
                  show TailR _ _ _ _
                  refine TailR.fresh (C := (W2.alloc (.cells #[.int .i64 (u : Int)] 3)).heap.size) (n := rl + 1) ?_ (by omega) (by rw [hW3s.out]; omega)
                  rw [List.map_append]; exact r1
                have HF5 := hide (HF4.out.grow hbg)
                have HV5 := hide (keep HV4.out hbg)
                have HB5 := hide (HB4.out.trans (hbg.mono HB4.out.size))
                clear HTROOM HFROOM HBROOM HVROOM HLO HOLD HCE H1c HSP HX HY hbg r1 r2 HF4 HV4 HB4
                go_wp2_with fail
                go_roundw
                case rel => exact ⟨c + 1, _, _, by omega, by go_num, HN, HMS2, HT5, HF5, HV5, HB5⟩
                case measure => simp [intOf]; omega
            · have hc' : K = c := by omega
              subst hc'
              have HN := hide (hin.out.fin (by rw [← HKK.out]; exact Nat.le_refl _))
              have HMM : Hid (2 * negW wr g N + lenV u7 < M) := by
                show _ < _
                rw [negW_eq hfa.out]
                obtain ⟨b2, off2, cap2, cur2, e2, _⟩ := htl.out
                rw [e2]
                exact hms.out.1
              have HSM2 : Hid (2 * negN f N + r.length ≤ 2 * N ∧ ∀ i, f i + (negN f N : Int) ≤ (N : Int)) := ⟨by have := hms.out.1; have := hMB.out; omega, hms.out.2⟩
              clear hin hms
              go_wp2_with fail
              go_roundw
              case rel => exact ⟨f, r, _, HN, HSM2, htl, hfa, hv, hbw⟩
              case measure => rw [hM.out]; exact HMM.out
      | nil =>
        have HFAR := hide hst.out.far
        have hN0 : 0 < N := by omega
        clear htl hst hsm hhb hcl hoc hlc HM0
        simp only [List.length_nil]
        go_wp2_with fail
        go_loopw [11, 12] (fun o i wr => ∃ y : Nat, y < N ∧ i = .int .i64 y ∧ Hid (OnP ar N tgt y) ∧ Hid (wr.ownsRow (g + 1) 3 1 o (wayL ar y).length ((wayL ar y).map fun (t : Nat) => Value.int .i64 (t : Int))) ∧ Hid (FarR wr g N f) ∧ Hid (wr.heap[w.heap.size]? = some (.cells #[.slice ma N mc, .slice aa K ac] 61 (0, 0))) ∧ Hid (Below w.heap.size w wr)) (fun _ i _ => N - (dp ar (intOf i).toNat))
        case atStart => exact ⟨0, hN0, rfl, HRT, by rw [wayL_zero]; exact World.ownsRow_nil _ _ _ _, hfa, hv, hbw⟩
        case round =>
          obtain ⟨y, hyN, rfl, hon, how, hfa, hv, hbw⟩ := hrel
          by_cases hyt : y = tgt
          · have HE : Hid (∃ v, Ending.returned u11 = .returned v ∧ wr.ownsRow w.heap.size 3 1 v (wayL ar tgt).length ((wayL ar tgt).map fun (t : Nat) => Value.int .i64 (t : Int)) ∧ Below w.heap.size w wr) := ⟨_, rfl, by rw [← hyt]; exact own_lowJ how.out (by omega), hbw.out⟩
            have hd : ((y : Int) != (tgt : Int)) = false := by simp [hyt]
            clear hyt hon how hfa hv hbw
            go_wp2_with fail
            go_ret
            exact HE.out
          have hd : ((y : Int) != (tgt : Int)) = true := by simp; omega
          have HON := FarOk.onP HT.out HFAR.out hto hon.out
          have hfy : 0 < f y := by
            have h1 := HON.2.1
            have h2 : f y ≠ 0 := fun h => hyt (HFAR.out.only y hyN h)
            omega
          have hfy2 : f y ≤ 400 := by
            have h1 := HON.2.1
            have h2 := dp_le ar tgt tgt
            have h3 : dp ar tgt = dpA ar tgt tgt := rfl
            omega
          obtain ⟨hv0, hv1⟩ := cells2 hv.out
          have hvl := row_lt hv.out
          have hkk0 : Hid (∀ i, i < 0 → ¬ ((ar.getD i a0).1 = y ∧ f (ar.getD i a0).2.2 = f y - 1)) := fun i hi => by omega
          clear HON
          go_wp2_with fail
          clear hv0 hv1 hvl
          go_loopw [11, 12, 81] (fun o t i wq => ∃ c : Nat, c ≤ K ∧ i = .int .i64 c ∧ t = .int .i64 y ∧ Hid (∀ i, i < c → ¬ ((ar.getD i a0).1 = y ∧ f (ar.getD i a0).2.2 = f y - 1)) ∧ Hid (wq.ownsRow (g + 1) 3 1 o (wayL ar y).length ((wayL ar y).map fun (t : Nat) => Value.int .i64 (t : Int))) ∧ Hid (FarR wq g N f) ∧ Hid (wq.heap[w.heap.size]? = some (.cells #[.slice ma N mc, .slice aa K ac] 61 (0, 0))) ∧ Hid (Below w.heap.size w wq)) (fun _ _ i _ => K - (intOf i).toNat)
          case atStart => exact ⟨0, Nat.zero_le _, rfl, rfl, hkk0, how, hfa, hv, hbw⟩
          case round =>
            obtain ⟨c, hc, rfl, rfl, hno, how, hfa, hv, hbw⟩ := hrel
            by_cases hcK : c < K
            rotate_left
            · exfalso
              obtain ⟨k, k1, k2, k3⟩ := HFAR.out.next y hyN hfy
              exact hno.out k (by have := HKK.out; omega) ⟨k2, k3⟩
            obtain ⟨u, bb, z, hxy, hmem⟩ := arc_get (show c < ar.length by rw [← HKK.out]; exact hcK)
            obtain ⟨ga, hag, q0, q1, q2⟩ := arcs_at (ownsRow_kept HA.out fun gg hgg => hbw.out.block gg (own_lt HA.out hgg).2) hcK hxy
            subst hag
            have hgal := World.block_lt_of_cell? _ _ q0
            obtain ⟨hu, hbb, hzN⟩ : u < N ∧ bb < 24 ∧ z < N := HARC.out _ hmem
            have hgd : ar.getD c a0 = (u, bb, z) := by rw [List.getD_eq_getElem?_getD, hxy]; rfl
            have hcKi : (c : Int) < (K : Int) := by omega
            have hc96 : (c : Int) ≤ 9600 := by omega
            have hA := below_al wr (.cells #[.int .i64 (u : Int), .int .i64 (bb : Int), .int .i64 (z : Int)] 66)
            have HWA := hide (own_growJ how.out hA)
            have HFA := hide (hfa.out.grow hA)
            have HVA := hide (keep hv.out hA)
            have HBA := hide (hbw.out.trans (hA.mono hbw.out.size))
            have hq1 := heap_alloc_new wr (.cells #[.int .i64 (u : Int), .int .i64 (bb : Int), .int .i64 (z : Int)] 66)
            have HQ := hide hq1
            by_cases huy : u = y
            rotate_left
            · have hd2 : ((u : Int) == (y : Int)) = false := by simp; omega
              have HNO : Hid (∀ i, i < c + 1 → ¬ ((ar.getD i a0).1 = y ∧ f (ar.getD i a0).2.2 = f y - 1)) := fun i hi => by
                by_cases e : i = c
                · subst e; rw [hgd]; exact fun h => huy h.1
                · exact hno.out i (by omega)
              clear hxy hmem hgd how hfa hv hbw hno hq1 hA
              go_wp2_with fail
              generalize wr.alloc (.cells #[.int .i64 (u : Int), .int .i64 (bb : Int), .int .i64 (z : Int)] 66) = w1 at *
              obtain ⟨hc30, hc31, hc32⟩ := cells3J HQ.out
              have hql := (Array.getElem?_eq_some_iff.mp HQ.out).1
              go_quiet (fail)
              have hbq := below_drewN' w1 nq
              have HWB := hide (own_growJ HWA.out hbq)
              have HFB := hide (HFA.out.grow hbq)
              have HVB := hide (keep HVA.out hbq)
              have HBB := hide (HBA.out.trans (hbq.mono HBA.out.size))
              clear hbq
              go_wp2_with fail
              go_roundw
              case rel => exact ⟨c + 1, by omega, by go_num, rfl, HNO, HWB, HFB, HVB, HBB⟩
              case measure => simp [intOf]; omega
            obtain rfl : y = u := huy.symm
            have hd2 : ((y : Int) == (y : Int)) = true := by simp
            obtain ⟨hcz, _, hglr⟩ := HFA.out.at hzN
            obtain ⟨hcy, _, _⟩ := HFA.out.at hyN
            have hzi : (z : Int) < (N : Int) := by omega
            have hyi : (y : Int) < (N : Int) := by omega
            obtain ⟨hc30, hc31, hc32⟩ := cells3J hq1
            have hql := (Array.getElem?_eq_some_iff.mp hq1).1
            obtain ⟨fz, hfz⟩ : ∃ t, Hid (f z = t) := ⟨_, rfl⟩
            obtain ⟨fy, hfyy⟩ : ∃ t, Hid (f y = t) := ⟨_, rfl⟩
            rw [hfz.out] at hcz
            rw [hfyy.out] at hcy hfy hfy2
            by_cases hgo : fz = fy - 1
            rotate_left
            · have hd3 : (fz == fy - 1) = false := by simp [hgo]
              have HNO : Hid (∀ i, i < c + 1 → ¬ ((ar.getD i a0).1 = y ∧ f (ar.getD i a0).2.2 = f y - 1)) := fun i hi => by
                by_cases e : i = c
                · subst e; rw [hgd]; exact fun h => hgo (by rw [← hfz.out, ← hfyy.out]; exact h.2)
                · exact hno.out i (by omega)
              clear hxy hmem hgd how hfa hv hbw hno hq1 hA hgo hfz hfyy
              go_wp2_with fail
              generalize wr.alloc (.cells #[.int .i64 (y : Int), .int .i64 (bb : Int), .int .i64 (z : Int)] 66) = w1 at *
              go_quiet (fail)
              have hbq := below_drewN' w1 nq
              have HWB := hide (own_growJ HWA.out hbq)
              have HFB := hide (HFA.out.grow hbq)
              have HVB := hide (keep HVA.out hbq)
              have HBB := hide (HBA.out.trans (hbq.mono HBA.out.size))
              clear hbq
              go_wp2_with fail
              go_roundw
              case rel => exact ⟨c + 1, by omega, by go_num, rfl, HNO, HWB, HFB, HVB, HBB⟩
              case measure => simp [intOf]; omega
            have hd3 : (fz == fy - 1) = true := by simp [hgo]
            obtain ⟨s1, s2, s3, s4⟩ := FarOk.step HT.out HFAR.out hto hon.out hyt (show c < ar.length by rw [← HKK.out]; exact hcK) (by rw [hgd]) (by rw [hgd, hfz.out, hfyy.out]; exact hgo) hno.out
            rw [hgd] at s1 s2 s3 s4
            have s1 : OnP ar N tgt z := s1
            have s2 : 0 < z := s2
            have s3 : parA ar z = y := s3
            have s4 : byA ar z = bb := s4
            have HON2 : Hid (OnP ar N tgt z) := s1
            have HWAY : Hid (wayL ar z = wayL ar y ++ [bb]) := by
              show _ = _
              rw [TreeOk.way_up HT.out s2 hzN, s3, s4]
            have HDP : Hid (N - dp ar z < N - dp ar y) := by
              show _ < _
              have h1 := TreeOk.dp_up HT.out s2 hzN
              rw [s3] at h1
              have h2 := dp_le ar z z
              have h3 : dp ar z = dpA ar z z := rfl
              omega
            have hwl : (wayL ar y).length ≤ 400 := by have := wayL_len ar y y; unfold wayL; omega
            clear hxy hmem hgd how hfa hv hbw hno hq1 hA hgo hfz hfyy s1 s2 s3 s4
            go_wp2_with fail
            generalize wr.alloc (.cells #[.int .i64 (y : Int), .int .i64 (bb : Int), .int .i64 (z : Int)] 66) = w1 at *
            go_quiet (fail)
            have hbq := below_drewN' w1 nq
            have HWB := hide (own_growJ HWA.out hbq)
            have HFB := hide (HFA.out.grow hbq)
            have HVB := hide (keep HVA.out hbq)
            have HBB := hide (HBA.out.trans (hbq.mono HBA.out.size))
            have HQB := hide (keep HQ.out hbq)
            clear hbq hcz hcy hc30 hc31 hc32 hql hglr HWA HFA HVA HBA HQ
            generalize w1.drewN nq = w2 at *
            obtain ⟨hc30, hc31, hc32⟩ := cells3J HQB.out
            have hql := (Array.getElem?_eq_some_iff.mp HQB.out).1
            have hA := below_al w2 (.cells #[.int .i64 (bb : Int)] 3)
            have HO3 := hide (own_growJ HWB.out hA)
            have HF3 := hide (HFB.out.grow hA)
            have HV3 := hide (keep HVB.out hA)
            have HB3 := hide (HBB.out.trans (hA.mono HBB.out.size))
            have HQ3 := hide (keep HQB.out hA)
            have hg3 : g < w2.heap.size := (HFB.out.at hyN).2.2
            have hs3 : (w2.alloc (.cells #[.int .i64 (bb : Int)] 3)).heap.size = w2.heap.size + 1 := by simp
            have HCE : Hid (∀ j v, ([.int .i64 (bb : Int)] : List Value)[j]? = some v → (w2.alloc (.cells #[.int .i64 (bb : Int)] 3)).cell? ((⟨w2.heap.size, 0, none⟩ : Addr).add j) = some v) := one_cell w2 _
            have H1c : Hid (∀ v ∈ ([.int .i64 (bb : Int)] : List Value), v.oneCell' = true) := fun v hv => by simp at hv; subst hv; rfl
            obtain ⟨wl, hwl2⟩ : ∃ n, Hid ((wayL ar y).length = n) := ⟨_, rfl⟩
            rw [hwl2.out] at HO3 hwl
            have HX := hide (show wl + 1 ≤ maxLen by unfold maxLen; omega)
            have HY := hide (show (wl + 1) * 8 ≤ 140737488355328 by omega)
            have HZ := hide (show g + 1 ≤ (w2.alloc (.cells #[.int .i64 (bb : Int)] 3)).heap.size by omega)
            clear hA HWB HFB HVB HBB HQB hs3
            go_wp2_with (refine wpList_append_own _ rfl (.tmp 102) (.tmp 105) 31 rfl (g + 1) 3 i0 (.int .i64 0) 1 8 Try.underlying31 hi hz0 hz1 hz2 rfl (by decide) _ wl _ rfl HO3.out ⟨_, 0, none⟩ 1 1 [.int .i64 (bb : Int)] rfl rfl HCE.out H1c.out HX.out HY.out HZ.out ?_; intro v' W' r1 r2 r3; obtain ⟨hc30, hc31, hc32⟩ := cells3J (own_otherJ HO3.out r2 HQ3.out (by decide)); have hqw := (Array.getElem?_eq_some_iff.mp (own_otherJ HO3.out r2 HQ3.out (by decide))).1)
            have HR1 : Hid (W'.ownsRow (g + 1) 3 1 v' (wayL ar z).length ((wayL ar z).map fun (t : Nat) => Value.int .i64 (t : Int))) := by
              show World.ownsRow _ _ _ _ _ _ _
              rw [HWAY.out, List.length_append, hwl2.out, List.map_append]; exact r1
            have HBG : Hid (Below (g + 1) (w2.alloc (.cells #[.int .i64 (bb : Int)] 3)) W') := by
              rcases own_belowJ HO3.out r2 with h | h
              · exact h
              · have := HZ.out; omega
            have HF4 := hide (HF3.out.low HBG.out (by omega))
            have HV4 : Hid (W'.heap[w.heap.size]? = some (.cells #[.slice ma N mc, .slice (some ⟨ga, 0, none⟩) K ac] 61 (0, 0))) := (HBG.out.block _ (by omega)).trans HV3.out
            have HB4 := hide (HB3.out.trans (HBG.out.mono (by omega)))
            clear r1 r2 r3 HO3 HF3 HV3 HB3 HQ3 HBG hc30 hc31 hc32 HCE H1c HX HY HZ
            go_wp2_with fail
            go_roundw
            case rel => exact ⟨z, hzN, rfl, HON2, HR1, HF4, HV4, HB4⟩
            case measure => simpa [intOf] using HDP.out
end Go.Proofs.Ytdhnhpjcoeglmaa


/- The specification's WayTo. -/
namespace Go.Proofs.Ytdhnhpjcoeglmaa
open Go.RowKit
set_option maxRecDepth 10000

def wtW (p : Int) (n : Nat) (L : List (List Int)) (ys : List Int) (bg : Int) (xs : List Int) : List Nat := wayL (spSea p n L ys bg).ar ((spSea p n L ys bg).ms.idxOf xs)
def wtOk (p : Int) (n : Nat) (L : List (List Int)) (ys : List Int) (bg : Int) (xs : List Int) : Bool := decide (spCode p n L ys bg = 1) && decide (xs ∈ (spSea p n L ys bg).ms) && decide ((wtW p n L ys bg xs).length ≤ 60)
def wtR (p : Int) (n : Nat) (L : List (List Int)) (ys : List Int) (bg : Int) (xs : List Int) : List Int := if wtOk p n L ys bg xs then (wtW p n L ys bg xs).map fun (t : Nat) => (t : Int) else []

theorem wtR_len (p : Int) (n : Nat) (L : List (List Int)) (ys : List Int) (bg : Int) (xs : List Int) : (wtR p n L ys bg xs).length ≤ 60 := by
  unfold wtR; split
  · rename_i h
    unfold wtOk at h
    simp only [Bool.and_eq_true, decide_eq_true_eq] at h
    simpa using h.2
  · exact Nat.zero_le _

theorem wtEnd_no {p : Int} {n : Nat} {L : List (List Int)} {ys xs : List Int} {bg : Int} {w w' : World} (h : wtOk p n L ys bg xs = false) (hb : Below w.heap.size w w') : WEnd (wtOk p n L ys bg xs) (wtR p n L ys bg xs) w (.returned (.tuple #[.slice none 0 0, .bool false])) w' := by
  refine ⟨none, 0, 0, by rw [h], ⟨?_, .inl rfl⟩, hb⟩
  unfold wtR; rw [h]; rfl

theorem wtEnd_yes {p : Int} {n B m : Nat} {L : List (List Int)} {ys xs : List Int} {bg : Int} {v : Value} {w w' : World} (h : wtOk p n L ys bg xs = true) (ho : w'.ownsRow B 3 1 v m ((wtW p n L ys bg xs).map fun (t : Nat) => Value.int .i64 (t : Int))) (hb : Below w.heap.size w w') : WEnd (wtOk p n L ys bg xs) (wtR p n L ys bg xs) w (.returned (.tuple #[v, .bool true])) w' := by
  have e : ((wtW p n L ys bg xs).map fun (t : Nat) => Value.int .i64 (t : Int)) = (((wtW p n L ys bg xs).map fun (t : Nat) => (t : Int)).map (Value.int .i64)) := by rw [List.map_map]; rfl
  rw [e] at ho
  obtain ⟨a, b, c, rfl, _, hob⟩ := own_ob ho
  refine ⟨a, m, c, by rw [h], ?_, hb⟩
  unfold wtR; rw [if_pos h]; exact hob.row

theorem keepB2J {W W' : World} {a1 a2 : Addr} {v1 v2 : Value} (hb : Below W.heap.size W W') (h : W.cell? a1 = some v1 ∧ W.cell? a2 = some v2) : W'.cell? a1 = some v1 ∧ W'.cell? a2 = some v2 :=
  ⟨(hb.cell (World.block_lt_of_cell? _ _ h.1)).trans h.1, (hb.cell (World.block_lt_of_cell? _ _ h.2)).trans h.2⟩

theorem own_sameJ {w w' : World} {B k n : Nat} {T : TypeId} {v : Value} {l : List Value} (h : w.ownsRow B T k v n l) (e : w'.heap = w.heap) : w'.ownsRow B T k v n l := by
  refine ⟨h.1, ?_⟩
  rcases h.2 with h0 | ⟨g, cap, cur, e', h1, h2, h3⟩
  · exact .inl h0
  · exact .inr ⟨g, cap, cur, e', h1, by rw [e]; exact h2, h3⟩

set_option maxHeartbeats 4000000 in
theorem waytoS_any (p : Int) (a am ax : Option Addr) (n c nm cm nx cx : Nat) (L : List (List Int)) (ys xs : List Int) (bg : Int) (w : World) (h : Lists w a (3 * n) L) (rm : Row w am nm ys) (rx : Row w ax nx xs) (hs : sizeN n L ≤ 1048576) (hnm : nm ≤ 1048576) (hnx : nx ≤ 1048576) :
    Calls Try.prog 59 #[.agg #[.int .i64 p, .slice a n c], .slice am nm cm, .int .i64 bg, .slice ax nx cx] w fun e w' => WEnd (wtOk p n L ys bg xs) (wtR p n L ys bg xs) w e w' := by
  have hAl := below_al w (.cells #[.int .i64 p, .slice a n c] 26)
  have HN0 := hide (heap_alloc_new w (.cells #[.int .i64 p, .slice a n c] 26))
  have HX := hide (all_any4 p a am n c nm cm L ys bg _ (h.below hAl) (rm.below hAl) hs hnm)
  have HX0 := hide (rx.below hAl)
  have HB0 := hide hAl
  clear h rm rx hAl
  go_enter Try.func59, Try.ntmps59
  go_wp2_with fail
  generalize w.alloc (.cells #[.int .i64 p, .slice a n c] 26) = v0 at *
  refine HX.out.mono ?_
  rintro e w1 ⟨hb1, hxx⟩
  have HX1 := hide (HX0.out.below hb1)
  have HB1 := hide (HB0.out.trans (hb1.mono HB0.out.size))
  clear hb1 HN0 HB0 HX HX0
  rcases hxx with ⟨hcode, s, ma, mc, aa, ac, hok, rfl, hmr, har⟩ | ⟨hcode, rfl⟩
  rotate_left
  · have HN := hide (wtEnd_no (xs := xs) (w := w) (show wtOk p n L ys bg xs = false by unfold wtOk; simp [hcode]) (HB1.out.trans ((below_al w1 (.cells #[.slice none 0 0, .slice none 0 0] 61)).mono HB1.out.size)))
    clear hcode
    go_wp2_with fail
    go_ret2
    exact HN.out
  have hA3 := below_al w1 (.cells #[.slice ma s.ms.length mc, .slice aa s.ar.length ac] 61)
  have HB3 := hide (HB1.out.trans (hA3.mono HB1.out.size))
  have HX3 := hide (HX1.out.below hA3)
  have HM3 := hide ((hmr.go hA3).lists (show nm ≤ maxLen by have := hok.l16; unfold maxLen; omega))
  have HAR3 := hide (show (w1.alloc (.cells #[.slice ma s.ms.length mc, .slice aa s.ar.length ac] 61)).ownsRow _ 66 3 (.slice aa s.ar.length ac) s.ar.length (arcsL s.ar) from ownsRow_kept har fun gg hgg => hA3.block gg (own_lt har hgg).2)
  have HS3 := hide (heap_alloc_new w1 (.cells #[.slice ma s.ms.length mc, .slice aa s.ar.length ac] 61))
  have hmx : s.ms.length ≤ 1048576 := by have := hok.m4; omega
  have HSEA : Hid (spSea p n L ys bg = s) := hok.is
  have HFI := hide (fun q => find_any ma ax s.ms.length mc nx cx s.ms xs ((w1.alloc (.cells #[.slice ma s.ms.length mc, .slice aa s.ar.length ac] 61)).drewN q) (HM3.out.drewN q) (HX3.out.below (below_drewN' _ q)) hmx hnx)
  have HFI0 := hide (find_any ma ax s.ms.length mc nx cx s.ms xs (w1.alloc (.cells #[.slice ma s.ms.length mc, .slice aa s.ar.length ac] 61)) HM3.out HX3.out hmx hnx)
  clear hA3 hmr har HB1 HX1
  obtain ⟨hs0, hs1⟩ := cells2 HS3.out
  have hsl := row_lt HS3.out
  by_cases hin : xs ∈ s.ms
  rotate_left
  · have HN := hide (fun W (hW : Below w.heap.size w W) => wtEnd_no (w := w) (show wtOk p n L ys bg xs = false by unfold wtOk; rw [HSEA.out]; simp [hin]) hW)
    unfold findL at HFI0
    rw [if_neg hin] at HFI0
    clear hin hcode HFI hok
    go_wp2_with fail
    refine HFI0.out.mono ?_
    rintro e w2 ⟨rfl, q, rfl⟩
    have HY := hide (HN.out _ (HB3.out.trans ((below_drewN' _ q).mono HB3.out.size)))
    go_wp2_with fail
    go_ret2
    exact HY.out
  have hidx : s.ms.idxOf xs < s.ms.length := List.idxOf_lt_length_of_mem hin
  have htree : TreeOk s.ms.length s.ar := searchS_tree hok.sea
  have hwW : Hid (wtW p n L ys bg xs = wayL s.ar (s.ms.idxOf xs)) := by show _ = _; unfold wtW; rw [HSEA.out]
  have HWT := hide (fun (W : World) (hA : W.ownsRow v0.heap.size 66 3 (.slice aa s.ar.length ac) s.ar.length (arcsL s.ar)) => way_any v0.heap.size s.ms.length s.ar.length (s.ms.idxOf xs) ma aa mc ac s.ar W hA rfl hok.len hok.m4 hidx htree (fun x hx => by have := hok.ok.arc x hx; have := hok.n24; omega) (htree.root _ hidx OnP.end_))
  have HOK : Hid (wtOk p n L ys bg xs = decide ((wayL s.ar (s.ms.idxOf xs)).length ≤ 60)) := by
    show _ = _
    unfold wtOk
    rw [hwW.out, HSEA.out, hcode]; simp [hin]
  unfold findL at HFI HFI0
  simp only [if_pos hin] at HFI HFI0
  obtain ⟨ix, hix⟩ : ∃ ix, Hid (s.ms.idxOf xs = ix) := ⟨_, rfl⟩
  rw [hix.out] at HFI HFI0 hwW HWT HOK hidx
  have hpos : (0 : Int) ≤ (ix : Int) := by omega
  have HNO := hide (fun W (hW : Below w.heap.size w W) (hl : ¬ (wayL s.ar ix).length ≤ 60) => wtEnd_no (w := w) (p := p) (n := n) (L := L) (ys := ys) (xs := xs) (bg := bg) (by rw [HOK.out]; simp [hl]) hW)
  have HYES := hide (fun W v m B (ho : W.ownsRow B 3 1 v m ((wayL s.ar ix).map fun (t : Nat) => Value.int .i64 (t : Int))) (hW : Below w.heap.size w W) (hl : (wayL s.ar ix).length ≤ 60) => wtEnd_yes (w := w) (p := p) (n := n) (L := L) (ys := ys) (xs := xs) (bg := bg) (by rw [HOK.out]; simp [hl]) (by rw [hwW.out]; exact ho) hW)
  clear hin hcode hok htree hidx hix HSEA hwW HOK
  generalize wayL s.ar ix = wl at *
  go_wp2_with fail
  refine HFI0.out.mono ?_
  rintro e w2 ⟨rfl, q, rfl⟩
  clear HFI0
  go_wp2_with fail
  generalize w1.alloc (.cells #[.slice ma s.ms.length mc, .slice aa s.ar.length ac] 61) = w3 at *
  generalize w1.heap.size = z at *
  clear w1
  go_region_held3 (fun W => W.cell? ⟨z, 0, none⟩ = some (.slice ma s.ms.length mc) ∧ W.cell? ⟨z, 1, none⟩ = some (.slice aa s.ar.length ac)) (first | (refine ⟨?_, ?_⟩ <;> simp only [World.cell?_drew, World.cell?_drewN] <;> assumption) | (apply keepB2J; assumption; assumption))
    (first
      | (go_at_call 127; refine (HFI.out _).mono ?_; rintro e w4 ⟨rfl, q2, rfl⟩)
      | (go_at_call 130; refine (HWT.out (w3.drewN _) (own_sameJ HAR3.out rfl)).mono ?_; rintro e w5 ⟨v, rfl, ho5, hb5⟩))
  have HB5 := hide (HB3.out.trans (((below_drewN' w3 (q + 1 + q2)).mono HB3.out.size).trans (hb5.mono (show w.heap.size ≤ (w3.drewN (q + 1 + q2)).heap.size from HB3.out.size))))
  have e5 : (wl.map fun (t : Nat) => Value.int .i64 (t : Int)) = ((wl.map fun (t : Nat) => (t : Int)).map (Value.int .i64)) := by rw [List.map_map]; rfl
  have ho6 := ho5
  rw [e5] at ho6
  obtain ⟨wa, wb, wc, rfl, _, _⟩ := own_ob ho6
  have HO5 := hide ho5
  clear ho5 ho6 e5 hb5
  go_wp2_with fail
  · rename_i hgt
    go_ret2
    exact HNO.out _ HB5.out (by omega)
  rename_i hle
  go_ret2
  exact HYES.out _ _ _ _ HO5.out HB5.out (by omega)
end Go.Proofs.Ytdhnhpjcoeglmaa


/- FireAll: one firing behind the other; the specification's FireAll, for every net, mark and list of numbers in memory. -/
namespace Go.Proofs.Ytdhnhpjcoeglmaa
open Go.RowKit
set_option maxRecDepth 10000

/-- The mark behind the last firing that tells true, and how many do. -/
def runL (p : Int) (n : Nat) (L : List (List Int)) : List Int → List Int → List Int
  | ys, [] => ys
  | ys, t :: ts => if fireOk p n L ys t then runL p n L (firedL L ys t) ts else ys
def runN (p : Int) (n : Nat) (L : List (List Int)) : List Int → List Int → Nat
  | _, [] => 0
  | ys, t :: ts => if fireOk p n L ys t then runN p n L (firedL L ys t) ts + 1 else 0

def allOk (p : Int) (n : Nat) (L : List (List Int)) (ys ts : List Int) : Bool := netOk p n L && goodB p ys && decide (ts.length ≤ 60) && allB ts 0 ((n : Int) - 1)
def faR (p : Int) (n : Nat) (L : List (List Int)) (ys ts : List Int) : List Int := if allOk p n L ys ts then runL p n L ys ts else []
def faN (p : Int) (n : Nat) (L : List (List Int)) (ys ts : List Int) : Nat := if allOk p n L ys ts then runN p n L ys ts else 0

/-- k firings told true, and the mark behind them is us. -/
structure Ran (p : Int) (n : Nat) (L : List (List Int)) (ys ts : List Int) (k : Nat) (us : List Int) : Prop where
  l : runL p n L ys ts = runL p n L us (ts.drop k)
  m : runN p n L ys ts = k + runN p n L us (ts.drop k)
  good : goodB p us = true
  len : us.length = ys.length

theorem firedL_len (L : List (List Int)) (ys : List Int) (t : Int) : (firedL L ys t).length = ys.length := by unfold firedL fireL; rw [updL_len, updL_len, updL_len]

theorem fireOk_good {p : Int} {n : Nat} {L : List (List Int)} {ys : List Int} {t : Int} (h : fireOk p n L ys t = true) : goodB p (firedL L ys t) = true := by
  unfold fireOk at h; simp only [Bool.and_eq_true] at h; exact h.2

theorem Ran.start {p : Int} {n : Nat} {L : List (List Int)} {ys ts : List Int} (h : goodB p ys = true) : Ran p n L ys ts 0 ys := ⟨rfl, by simp, h, rfl⟩

theorem dropF_at {ts : List Int} {k : Nat} {t : Int} (h : ts[k]? = some t) : ts.drop k = t :: ts.drop (k + 1) := by
  have hk := (List.getElem?_eq_some_iff.mp h).1
  rw [List.drop_eq_getElem_cons hk]
  congr 1
  rw [List.getElem?_eq_getElem hk] at h
  exact Option.some.inj h

theorem Ran.step {p : Int} {n : Nat} {L : List (List Int)} {ys ts us : List Int} {k : Nat} {t : Int} (h : Ran p n L ys ts k us) (hx : ts[k]? = some t) (hf : fireOk p n L us t = true) : Ran p n L ys ts (k + 1) (firedL L us t) := by
  have e := dropF_at hx
  refine ⟨?_, ?_, fireOk_good hf, (firedL_len _ _ _).trans h.len⟩
  · rw [h.l, e]; simp only [runL]; rw [if_pos hf]
  · rw [h.m, e]; simp only [runN]; rw [if_pos hf]; omega

theorem Ran.stop {p : Int} {n : Nat} {L : List (List Int)} {ys ts us : List Int} {k : Nat} {t : Int} (h : Ran p n L ys ts k us) (hx : ts[k]? = some t) (hf : fireOk p n L us t = false) : runL p n L ys ts = us ∧ runN p n L ys ts = k := by
  have e := dropF_at hx
  refine ⟨?_, ?_⟩
  · rw [h.l, e]; simp only [runL]; rw [hf]; rfl
  · rw [h.m, e]; simp only [runN]; rw [hf]; rfl

theorem Ran.done {p : Int} {n : Nat} {L : List (List Int)} {ys ts us : List Int} {k : Nat} (h : Ran p n L ys ts k us) (hk : ts.length = k) : runL p n L ys ts = us ∧ runN p n L ys ts = k := by
  have e : ts.drop k = [] := List.drop_eq_nil_of_le (by omega)
  exact ⟨by rw [h.l, e]; rfl, by rw [h.m, e]; rfl⟩

/-- A list, a number and a bool; nothing that was there is written. -/
def AEnd (g : Bool) (r : List Int) (m : Nat) (w : World) (e : Ending) (w' : World) : Prop := ∃ a n c, e = .returned (.tuple #[.slice a n c, .int .i64 (m : Int), .bool g]) ∧ Row w' a n r ∧ Below w.heap.size w w'

theorem aend_no {p : Int} {n : Nat} {L : List (List Int)} {ys ts : List Int} {w w' : World} (h : allOk p n L ys ts = false) (hb : Below w.heap.size w w') : AEnd (allOk p n L ys ts) (faR p n L ys ts) (faN p n L ys ts) w (.returned (.tuple #[.slice none 0 0, .int .i64 0, .bool false])) w' := by
  refine ⟨none, 0, 0, ?_, ⟨?_, .inl rfl⟩, hb⟩
  · unfold faN; rw [h]; rfl
  · unfold faR; rw [h]; rfl

theorem aend_yes {p : Int} {n : Nat} {L : List (List Int)} {ys ts us : List Int} {k : Nat} {w w' : World} {a : Option Addr} {m c : Nat} (h : allOk p n L ys ts = true) (hh : runL p n L ys ts = us ∧ runN p n L ys ts = k) (hr : Row w' a m us) (hb : Below w.heap.size w w') :
    AEnd (allOk p n L ys ts) (faR p n L ys ts) (faN p n L ys ts) w (.returned (.tuple #[.slice a m c, .int .i64 (k : Int), .bool true])) w' := by
  refine ⟨a, m, c, ?_, ?_, hb⟩
  · unfold faN; rw [h, if_pos rfl, hh.2]
  · unfold faR; rw [h, if_pos rfl, hh.1]; exact hr

theorem allOk_no1 {p : Int} {n : Nat} {L : List (List Int)} {ys ts : List Int} (h : (netOk p n L && goodB p ys) = false) : allOk p n L ys ts = false := by unfold allOk; rw [h]; rfl
theorem allOk_no2 {p : Int} {n : Nat} {L : List (List Int)} {ys ts : List Int} (h : ¬ ts.length ≤ 60) : allOk p n L ys ts = false := by unfold allOk; simp [h]
theorem allOk_no3 {p : Int} {n : Nat} {L : List (List Int)} {ys ts : List Int} (h : allB ts 0 ((n : Int) - 1) = false) : allOk p n L ys ts = false := by unfold allOk; rw [h]; simp
theorem allOk_yes {p : Int} {n : Nat} {L : List (List Int)} {ys ts : List Int} (h : (netOk p n L && goodB p ys) = true) (h2 : ts.length ≤ 60) (h3 : allB ts 0 ((n : Int) - 1) = true) : allOk p n L ys ts = true := by
  unfold allOk; rw [h, h3]; simp [h2]

end Go.Proofs.Ytdhnhpjcoeglmaa
