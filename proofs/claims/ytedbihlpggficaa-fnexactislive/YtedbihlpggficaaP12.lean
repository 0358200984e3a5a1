/- Contracts that the proof stands on, one behind the other. -/
import Derived.Test.YtedbihlpggficaaP11
/- The specification's IsLive. -/
namespace Go.Proofs.Ytedbihlpggficaa
open Go.RowKit
set_option maxRecDepth 10000

/-- From each mark one can come to one in which t can fire. -/
def LiveT (s : Sea) (L : List (List Int)) (t : Nat) : Prop := ∀ i, i < s.ms.length → CanTo s.ar (fun x => x < s.ms.length ∧ canT L (s.ms.getD x []) t = true) i
def LiveP (s : Sea) (n : Nat) (L : List (List Int)) : Prop := ∀ t, t < n → LiveT s L t

open Classical in
/-- What IsLive tells. -/
noncomputable def ilR (p : Int) (n : Nat) (L : List (List Int)) (ys : List Int) (bg : Int) : Bool := dtOk p n L ys bg && decide (LiveP (spSea p n L ys bg) n L)

/-- How IsLive ends. -/
def IlEnd (p : Int) (n : Nat) (L : List (List Int)) (ys : List Int) (bg : Int) (w : World) (e : Ending) (w' : World) : Prop :=
  e = .returned (.tuple #[.bool (ilR p n L ys bg), .bool (dtOk p n L ys bg)]) ∧ Below w.heap.size w w'

theorem ilEnd_no {p : Int} {n : Nat} {L : List (List Int)} {ys : List Int} {bg : Int} {w w' : World} (h : spCode p n L ys bg ≠ 1) (hb : Below w.heap.size w w') : IlEnd p n L ys bg w (.returned (.tuple #[.bool false, .bool false])) w' := by
  refine ⟨?_, hb⟩
  unfold ilR; rw [dtOk_no h]; rfl

theorem ilEnd_yes {p : Int} {n l : Nat} {L : List (List Int)} {ys : List Int} {bg : Int} {s : Sea} {w w' : World} {b : Bool} (h : spCode p n L ys bg = 1) (hs : SpOk p n l L ys bg s) (hx : b = true ↔ LiveP s n L) (hb : Below w.heap.size w w') : IlEnd p n L ys bg w (.returned (.tuple #[.bool b, .bool true])) w' := by
  refine ⟨?_, hb⟩
  unfold ilR
  rw [dtOk_yes h, hs.is]
  have e : (true && @decide (LiveP s n L) (Classical.propDecidable _)) = b := by
    cases b
    · simp only [Bool.true_and, decide_eq_false_iff_not]; exact fun e => by have := hx.2 e; cases this
    · simp only [Bool.true_and, decide_eq_true_eq]; exact hx.1 rfl
  rw [e]

theorem nums_mem {f : Nat → Bool} {N i : Nat} : i ∈ (List.range N).filter f ↔ (i < N ∧ f i = true) := by
  rw [List.mem_filter, List.mem_range]

set_option maxHeartbeats 4000000 in
theorem liveS_any (p : Int) (a am : Option Addr) (n c nm cm : Nat) (L : List (List Int)) (ys : List Int) (bg : Int) (w : World) (h : Lists w a (3 * n) L) (rm : Row w am nm ys) (hs : sizeN n L ≤ 1048576) (hnm : nm ≤ 1048576) :
    Calls Try.prog 31 #[.agg #[.int .i64 p, .slice a n c], .slice am nm cm, .int .i64 bg] w fun e w' => IlEnd p n L ys bg w e w' := by
  have hAl := below_al w (.cells #[.int .i64 p, .slice a n c] 35)
  have HN0 := hide (heap_alloc_new w (.cells #[.int .i64 p, .slice a n c] 35))
  have HX := hide (all_any4 p a am n c nm cm L ys bg _ (h.below hAl) (rm.below hAl) hs hnm)
  have HL0 := hide (h.below hAl)
  have HB0 := hide hAl
  clear h rm hAl
  go_enter Try.func31, Try.ntmps31
  go_wp2_with fail
  generalize w.alloc (.cells #[.int .i64 p, .slice a n c] 35) = v0 at *
  refine HX.out.mono ?_
  rintro e w1 ⟨hb1, hxx⟩
  have HN1 := hide (keep HN0.out hb1)
  have HL1 := hide (HL0.out.below hb1)
  have HB1 := hide (HB0.out.trans (hb1.mono HB0.out.size))
  clear hb1 HN0 HB0 HX HL0
  rcases hxx with ⟨hcode, s, ma, mc, aa, ac, hok, rfl, hmr, har⟩ | ⟨hcode, rfl⟩
  rotate_left
  · have HN := hide (ilEnd_no (w := w) hcode (HB1.out.trans ((below_al w1 (.cells #[.slice none 0 0, .slice none 0 0] 30)).mono HB1.out.size)))
    clear hcode
    go_wp2_with fail
    go_ret2
    exact HN.out
  have hA3 := below_al w1 (.cells #[.slice ma s.ms.length mc, .slice aa s.ar.length ac] 30)
  have HB3 := hide (HB1.out.trans (hA3.mono HB1.out.size))
  have HN3 := hide (keep HN1.out hA3)
  have HS3 := hide (heap_alloc_new w1 (.cells #[.slice ma s.ms.length mc, .slice aa s.ar.length ac] 30))
  have HM3 := hide (hmr.go hA3)
  have HL3 := hide (HL1.out.below hA3)
  have HA3 := hide (ownsRow_kept har fun g hg => hA3.block g (own_lt har hg).2)
  have HEND := hide (fun W b hx (hW : Below w.heap.size w W) => ilEnd_yes (w := w) (w' := W) (b := b) hcode hok hx hW)
  have hl16 := hok.l16
  have hm4 := hok.m4
  have hlen := hok.len
  have hn24 := hok.n24
  have HALT := hide (arcs_lt hok)
  have hin : ∀ k, k < n → ∀ x ∈ L.getD (3 * k) [], 0 ≤ x ∧ x < (nm : Int) := by
    intro t ht x hx
    have htri := tri_rise (triOkOf hok.net ht)
    have := riseB_mem htri.1 x hx
    have := hok.hl
    omega
  have HIN := hide hin
  have hss : n + sizeL L ≤ 1048576 := hs
  obtain ⟨hc0, hc1⟩ := cells2 HN3.out
  clear hA3 hmr har HB1 HN1 HL1 hcode hok hin
  obtain ⟨i0, hi, hz0, hz1, hz2⟩ := info_split Try.info3
  go_upto_region 4 with fail
  generalize w1.alloc (.cells #[.slice ma s.ms.length mc, .slice aa s.ar.length ac] 30) = v3 at *
  obtain ⟨N, hN⟩ : ∃ N, Hid (s.ms.length = N) := ⟨_, rfl⟩
  rw [hN.out] at HS3 hm4 ⊢
  go_wp2_with fail
  clear hc0 hc1
  go_loopw [26] (fun i wr => ∃ t : Nat, t ≤ n ∧ i = .int .i64 t ∧ Hid (∀ u, u < t → LiveT s L u) ∧ Hid (Below v3.heap.size v3 wr)) (fun i _ => n - (intOf i).toNat)
  case atStart => exact ⟨0, Nat.zero_le _, rfl, fun u hu => absurd hu (by omega), Below.refl _ _⟩
  case round =>
    obtain ⟨t, ht, rfl, hlv, hbw⟩ := hrel
    have HBW := hide (HB3.out.trans (hbw.out.mono HB3.out.size))
    by_cases hlt : t < n
    rotate_left
    · have HE := hide (HEND.out wr true ⟨fun _ u hu => hlv.out u (by omega), fun _ => rfl⟩ HBW.out)
      have hk' : t = n := by omega
      clear hlv hbw
      subst hk'
      have htt : ¬ (t : Int) < (t : Int) := by omega
      go_wp2_with fail
      go_ret2
      exact HE.out
    obtain ⟨bo, hbo⟩ : ∃ b, wr.heap.size = b := ⟨_, rfl⟩
    obtain ⟨hs0, hs1⟩ := cells2 (keep HS3.out hbw.out)
    have htn : (t : Int) < (n : Int) := by omega
    have ht24 : (t : Int) ≤ 24 := by omega
    have HBV := hide hbw.out
    clear hbw
    go_wp2_with fail
    clear hs0 hs1
    go_loopw [11, 32] (fun o i wq => ∃ j m : Nat, j ≤ N ∧ i = .int .i64 j ∧ Hid (m ≤ j) ∧ Hid (wq.ownsRow bo 3 1 o m ((numsL (fun x => canT L (s.ms.getD x []) t) j).map (Value.int .i64))) ∧ Hid (Below bo wr wq ∧ Below v3.heap.size v3 wq)) (fun _ i _ => N - (intOf i).toNat)
    case atStart => exact ⟨0, 0, Nat.zero_le _, rfl, Nat.le_refl _, World.ownsRow_nil _ _ _ _, Below.refl _ _, HBV.out⟩
    case round =>
      obtain ⟨j, m, hj, rfl, hmj, hown, hbb⟩ := hrel
      by_cases hjN : j < N
      rotate_left
      · have hj' : j = N := by omega
        have hown' := hown.out
        rw [hj'] at hown'
        have hnl : numsL (fun x => canT L (s.ms.getD x []) t) N = ((List.range N).filter (fun x => canT L (s.ms.getD x []) t)).map fun (x : Nat) => (x : Int) := rfl
        rw [hnl] at hown'
        obtain ⟨oa, oc, rfl, hrow⟩ := own_row hown'
        have HS4 := hide (keep HS3.out hbb.out.2)
        have HEV := hide (everywhere_any ma aa oa N mc ac m oc _ ((List.range N).filter (fun x => canT L (s.ms.getD x []) t)) s.ar wr (ownsRow_kept HA3.out fun g hg => hbb.out.2.block g (own_lt HA3.out hg).2) hm4 hlen (by rw [← hN.out]; exact HALT.out) hrow (by have := hmj.out; omega) (fun x hx => (nums_mem.1 hx).1))
        have HB4 := hide (HB3.out.trans (hbb.out.2.mono HB3.out.size))
        have HBV2 := hide hbb.out.2
        obtain ⟨hs0, hs1⟩ := cells2 HS4.out
        clear hown hown' hrow hbb hmj hj hnl
        subst hj'
        have hjj : ¬ (j : Int) < (j : Int) := by omega
        go_wp2_with fail
        refine HEV.out.mono ?_
        rintro e w7 ⟨b, rfl, hbi, hb⟩
        rw [← hN.out] at hbi
        have HBX := hide (HB4.out.trans (hb.mono HB4.out.size))
        have HBY := hide (HBV2.out.trans (hb.mono HBV2.out.size))
        have hbl : b = true ↔ LiveT s L t := hbi.trans ⟨fun hh i hi => (CanTo.congr fun x => nums_mem).1 (hh i hi), fun hh i hi => (CanTo.congr fun x => nums_mem).2 (hh i hi)⟩
        cases b
        · have HE := hide (HEND.out w7 false ⟨fun e => (by cases e), fun e => hbl.2 (e t hlt)⟩ HBX.out)
          clear hbl hbi hb hs0 hs1
          go_wp2_with fail
          go_ret2
          exact HE.out
        · have HLV : Hid (∀ u, u < t + 1 → LiveT s L u) := fun u hu => by
            by_cases e : u = t
            · rw [e]; exact hbl.1 rfl
            · exact hlv.out u (by omega)
          clear hbl hbi hb hs0 hs1
          go_wp2_with fail
          go_roundw
          case rel => exact ⟨t + 1, by omega, by go_num, HLV, HBY⟩
          case measure => simp [intOf]; omega
      have hbv := hbb.out.2
      obtain ⟨mb, mg, mgc, hma, hmbl, hcell, hor⟩ := (HM3.out.go hbv).at_ (show j < s.ms.length by rw [hN.out]; exact hjN)
      obtain ⟨tb, toff, a0, n0, c0', a1, n1, c1', a2, n2, c2', hta, htb, htr, m0, m1, m2, r0, r1, r2⟩ := (HL3.out.below hbv).tri hlt
      obtain ⟨he0, he1, he2⟩ := rangeAt_cells3 htr
      obtain ⟨hd0, hd1⟩ := cells2 (keep HN3.out hbv)
      have hl := len_le L (3 * t)
      have q0 : n0 ≤ 1048576 := by have := r0.1; omega
      obtain ⟨mk, hmk⟩ : ∃ m, Hid (s.ms.getD j [] = m) := ⟨_, rfl⟩
      rw [hmk.out] at hor
      have HH := hide (can_any a0 a1 a2 (some ⟨mg, 0, none⟩) n0 n1 n2 c0' c1' c2' nm mgc _ mk wr r0 hor.row q0 (HIN.out t hlt))
      have hjNi : (j : Int) < (N : Int) := by omega
      have hj4 : (j : Int) ≤ 400 := by omega
      subst hma hta
      by_cases hh : canB (L.getD (3 * t) []) mk = true
      rotate_left
      · have hh' : canB (L.getD (3 * t) []) mk = false := by simpa using hh
        have HN := hide (numsL_no (f := (fun x => canT L (s.ms.getD x []) t)) (k := j) (by show canB _ _ = false; rw [hmk.out]; exact hh'))
        rw [hh'] at HH
        have HO1 := hown
        have HBB := hbb
        clear hh hh' hown hbb hbv hor htr m0 m1 m2 r0 r1 r2 hl q0 htb hmbl
        go_wp2_with fail
        refine HH.out.mono ?_
        rintro e w7 ⟨rfl, hb⟩
        have hzb : bo ≤ wr.heap.size := by rw [← hbo]; exact HBB.out.1.size
        have HO2 := hide (own_grow HO1.out hb)
        have HB2 := hide (And.intro (HBB.out.1.trans (hb.mono hzb)) (HBB.out.2.trans (hb.mono HBB.out.2.size)))
        clear hb hcell he0 he1 he2 hd0 hd1 HH HO1 HBB
        go_wp2_with fail
        go_roundw
        case rel => exact ⟨j + 1, m, by omega, by go_num, Nat.le_succ_of_le hmj.out, by rw [HN.out]; exact HO2, HB2⟩
        case measure => simp [intOf]; omega
      · have HN := hide (numsL_yes (f := (fun x => canT L (s.ms.getD x []) t)) (k := j) (by show canB _ _ = true; rw [hmk.out]; exact hh))
        rw [hh] at HH
        have HO0 := hown
        have HBB := hbb
        clear hh hown hbb hbv hor htr m0 m1 m2 r0 r1 r2 hl q0 htb hmbl
        go_wp2_with fail
        refine HH.out.mono ?_
        rintro e W1 ⟨rfl, hb⟩
        have hzb : bo ≤ wr.heap.size := by rw [← hbo]; exact HBB.out.1.size
        have HO1 := hide (own_grow HO0.out hb)
        have HB1 := hide (And.intro (HBB.out.1.trans (hb.mono hzb)) (HBB.out.2.trans (hb.mono HBB.out.2.size)))
        have hzw : bo ≤ W1.heap.size := Nat.le_trans hzb hb.size
        have hA2 := below_al W1 (.cells #[.int .i64 (j : Int)] 3)
        have HO2 := hide (HO1.out.alloc (.cells #[.int .i64 (j : Int)] 3))
        have HB2 := hide (HB1.out.1.trans (hA2.mono hzw))
        have HB2v := hide (HB1.out.2.trans (hA2.mono HB1.out.2.size))
        have HCE : Hid (∀ k u, ([.int .i64 (j : Int)] : List Value)[k]? = some u → (W1.alloc (.cells #[.int .i64 (j : Int)] 3)).cell? ((⟨W1.heap.size, 0, none⟩ : Addr).add k) = some u) := one_cell W1 _
        have H1c : Hid (∀ u ∈ ([.int .i64 (j : Int)] : List Value), u.oneCell' = true) := fun u hu => by simp at hu; subst hu; rfl
        have HXb := hide (show m + 1 ≤ maxLen by have := hmj.out; unfold maxLen; omega)
        have HYb := hide (show (m + 1) * 8 ≤ 140737488355328 by have := hmj.out; omega)
        have HZ := hide (show bo ≤ (W1.alloc (.cells #[.int .i64 (j : Int)] 3)).heap.size from Nat.le_trans hzw hA2.size)
        have hvb : v3.heap.size ≤ bo := by rw [← hbo]; exact HBV.out.size
        clear hA2 hb hcell he0 he1 he2 hd0 hd1 HH HO0 HBB
        go_wp2_with (refine wpList_append_own _ rfl (.tmp 44) (.tmp 46) 25 rfl bo 3 i0 (.int .i64 0) 1 8 Try.underlying25 hi hz0 hz1 hz2 rfl (by decide) u11 m _ rfl HO2.out ⟨W1.heap.size, 0, none⟩ 1 1 [.int .i64 (j : Int)] rfl rfl HCE.out H1c.out HXb.out HYb.out HZ.out ?_; intro v' W' r1 r2 r3)
        have HR1 : Hid (W'.ownsRow bo 3 1 v' (m + 1) ((numsL (fun x => canT L (s.ms.getD x []) t) (j + 1)).map (Value.int .i64))) := by
          show World.ownsRow _ _ _ _ _ _ _
          rw [HN.out, List.map_append]; exact r1
        have HB3' := hide (And.intro (own_below HO2.out r2 HB2.out HZ.out (Nat.le_refl _)) (own_below HO2.out r2 HB2v.out (Nat.le_trans hvb HZ.out) hvb))
        clear r1 r2 r3
        go_wp2_with fail
        go_roundw
        case rel => exact ⟨j + 1, m + 1, by omega, by go_num, Nat.succ_le_succ hmj.out, HR1, HB3'⟩
        case measure => simp [intOf]; omega
end Go.Proofs.Ytedbihlpggficaa


/- Rows of numbers, each of which append makes, in one block: for each mark those that fire to it. -/
namespace Go.Proofs.Ytedbihlpggficaa
open Go.RowKit
set_option maxRecDepth 10000

/-- Those that fire to j, in the arcs' order. -/
def toL (ar : List (Nat × Nat × Nat)) (j : Nat) : List Nat := (ar.filter fun a => a.2.2 == j).map fun a => a.1

theorem toL_take {ar : List (Nat × Nat × Nat)} {k x y z : Nat} (h : ar[k]? = some (x, y, z)) (j : Nat) : toL (ar.take (k + 1)) j = if z = j then toL (ar.take k) j ++ [x] else toL (ar.take k) j := by
  unfold toL
  rw [List.take_add_one, h, List.filter_append, List.map_append]
  by_cases e : z = j
  · subst e; simp
  · simp [e]

theorem toL_mem {ar : List (Nat × Nat × Nat)} {i j : Nat} : i ∈ toL ar j ↔ ∃ t, (i, t, j) ∈ ar := by
  unfold toL
  rw [List.mem_map]
  constructor
  · rintro ⟨⟨a, b, c⟩, h1, rfl⟩
    rw [List.mem_filter] at h1
    have e : c = j := by simpa using h1.2
    exact ⟨b, by rw [← e]; exact h1.1⟩
  · rintro ⟨t, h⟩
    exact ⟨(i, t, j), List.mem_filter.2 ⟨h, by simp⟩, rfl⟩

theorem toL_len (ar : List (Nat × Nat × Nat)) (j : Nat) : (toL ar j).length ≤ ar.length := by
  unfold toL; rw [List.length_map]; exact List.length_filter_le _ _

/-- Block R holds N rows, each in a block of its own (or none), from base on. -/
structure AhSt (w : World) (R N base : Nat) (rows : Nat → List Nat) (V : Nat → Value) : Prop where
  outer : ∃ C, w.heap[R]? = some (.cells C 25 (0, 0)) ∧ C.size = N ∧ ∀ j, j < N → C[j]? = some (V j)
  row : ∀ j, j < N → Tail w base 1 (V j) (rows j).length (intsV (rows j))
  apart : ∀ i j, i < N → j < N → i ≠ j → ∀ g, (V i).ownBlock = some g → (V j).ownBlock ≠ some g
  low : R < base

theorem AhSt.cell {w : World} {R N base : Nat} {rows : Nat → List Nat} {V : Nat → Value} (h : AhSt w R N base rows V) {j : Nat} (hj : j < N) : w.cell? ⟨R, j, none⟩ = some (V j) ∧ w.frozen? ⟨R, j, none⟩ = false := by
  obtain ⟨C, h1, _, h3⟩ := h.outer
  exact ⟨(cell_of_row w R j C _ _ h1).trans (h3 j hj), frozen_of_row w R j C _ h1⟩

theorem AhSt.grow {w w' : World} {R N base : Nat} {rows : Nat → List Nat} {V : Nat → Value} (h : AhSt w R N base rows V) (hb : Below w.heap.size w w') : AhSt w' R N base rows V := by
  obtain ⟨C, h1, h2⟩ := h.outer
  exact ⟨⟨C, keep h1 hb, h2⟩, fun j hj => (h.row j hj).grow hb, h.apart, h.low⟩

theorem AhSt.made (w : World) (N : Nat) : AhSt (w.alloc (.cells (madeCells #[.slice none 0 0] N) 25)) w.heap.size N (w.heap.size + 1) (fun _ => []) (fun _ => .slice none 0 0) := by
  refine ⟨⟨_, heap_alloc_new _ _, by rw [size_madeCells], fun j hj => ?_⟩, fun j _ => Tail.nil _ _ _, fun i j _ _ _ g hg => by simp [Value.ownBlock] at hg, Nat.lt_succ_self _⟩
  unfold madeCells
  have e : (j % (#[Value.slice none 0 0] : Array Value).size) = 0 := Nat.mod_one j
  rw [Array.getElem?_map, Array.getElem?_range, if_pos hj, Option.map_some, e]
  rfl

/-- One row is appended to, and its slice is laid in its place. -/
theorem AhSt.put {w w' : World} {R N base : Nat} {rows rows' : Nat → List Nat} {V : Nat → Value} (h : AhSt w R N base rows V) {z : Nat} (hz : z < N) {v' : Value} (hg : w.grownBy w' (V z).ownBlock) (ht : Tail w' base 1 v' (rows' z).length (intsV (rows' z)))
    (hn : ∀ g, v'.ownBlock = some g → (V z).ownBlock = some g ∨ w.heap.size ≤ g) (hr : ∀ j, j ≠ z → rows' j = rows j) : AhSt (w'.setCell ⟨R, z, none⟩ v') R N base rows' (fun j => if j = z then v' else V j) := by
  obtain ⟨C, h1, h2, h3⟩ := h.outer
  have hRl := row_lt h1
  have hsz := hg.size
  have far : ∀ g, g < w.heap.size → (V z).ownBlock ≠ some g → w'.heap[g]? = w.heap[g]? := fun g h1 h2 => hg.block g h1 fun e => h2 e.symm
  have hRz : (V z).ownBlock ≠ some R := fun e => by have := ((h.row z hz).lt e).1; have := h.low; omega
  refine ⟨⟨C.setIfInBounds z v', heap_setCell_same _ _ _ _ _ _ ((far R hRl hRz).trans h1), by simp [h2], fun j hj => ?_⟩, fun j hj => ?_, fun i j hi hj hij g hgi => ?_, h.low⟩
  · rw [Array.getElem?_setIfInBounds]
    by_cases e : z = j
    · subst e; rw [if_pos rfl, if_pos (by omega), if_pos rfl]
    · rw [if_neg e, if_neg (fun q => e q.symm)]; exact h3 j hj
  · have stay : ∀ g, base ≤ g → (w'.setCell ⟨R, z, none⟩ v').heap[g]? = w'.heap[g]? := fun g hgb => Below.heap_setCell _ _ _ _ (show g ≠ R by have := h.low; omega)
    by_cases e : j = z
    · subst e
      simp only [if_pos]
      exact ht.kept (by rw [size_setCell]; exact Nat.le_refl _) fun g hg' => stay g (ht.lt hg').1
    · simp only [if_neg e, hr j e]
      refine (h.row j hj).kept (by rw [size_setCell]; exact hsz) fun g hg' => ?_
      have hl := (h.row j hj).lt hg'
      exact (stay g hl.1).trans (far g hl.2 fun q => h.apart z j hz hj (fun q => e q.symm) g q hg')
  · by_cases ei : i = z
    · subst ei
      have ej : ¬ j = i := fun q => hij q.symm
      simp only [if_pos, if_neg ej] at hgi ⊢
      rcases hn g hgi with q | q
      · exact h.apart i j hi hj hij g q
      · intro q2; have := ((h.row j hj).lt q2).2; omega
    · simp only [if_neg ei] at hgi
      by_cases ej : j = z
      · subst ej
        simp only [if_pos]
        intro q
        rcases hn g q with q2 | q2
        · exact h.apart i j hi hj hij g hgi q2
        · have := ((h.row i hi).lt hgi).2; omega
      · simp only [if_neg ej]; exact h.apart i j hi hj hij g hgi
end Go.Proofs.Ytedbihlpggficaa


/- The program's ahead: for each mark those that fire to it. -/
namespace Go.Proofs.Ytedbihlpggficaa
open Go.RowKit
set_option maxRecDepth 10000

theorem Try.info25a : (Try.prog.info? 25).map (fun i => (i.zero, i.size, i.bytes)) = some (some (.slice none 0 0), 1, 24) := by kernel_rfl

/-- How ahead ends. -/
def AhEnd (N : Nat) (ar : List (Nat × Nat × Nat)) (w : World) (e : Ending) (w' : World) : Prop :=
  ∃ R base V, e = .returned (.slice (some ⟨R, 0, none⟩) N N) ∧ w.heap.size ≤ R ∧ AhSt w' R N base (toL ar) V ∧ Below w.heap.size w w'

theorem fill_one (z : Int) : Instr.fill (fun i => some (i * 1, 1)) (Array.map (fun x => (Value.int IntKind.i64 0).cells[x % (Value.int IntKind.i64 0).cells.size]!) (Array.range (1 * 1))) [(0, Value.int IntKind.i64 z)] = some #[Value.int IntKind.i64 z] := by
  have e : Array.range (1 * 1) = #[0] := by decide
  rw [e]
  simp [Instr.fill, Value.cells]

theorem exec_build_one {o : Oper} {a : Act} {w : World} (x : Operand) (ho : o.op = .buildSlice 25 1 #[(0, x)]) (z : Int) (hx : a.eval x = .int .i64 z) :
    (execOp a.eval o).run Try.prog w = .ok (.value (.slice (some ⟨w.heap.size, 0, none⟩) 1 1)) (w.alloc (.cells #[.int .i64 z] 3)) := by
  obtain ⟨i0, hi, hz0, hz1, hz2⟩ := info_split Try.info3
  unfold execOp
  simp only [ho]
  simp only [List.map_toArray, List.map_cons, List.map_nil, hx]
  rw [Sem.run_bind, Go.run_buildSlice w 25 3 1 _ #[.int .i64 z] i0 _ Try.underlying25 hi hz0 (by rw [hz1]; decide) (by rw [hz1]; decide) ?_]
  · rfl
  · rw [hz1]; exact fill_one z

theorem intsV_snocU (xs : List Nat) (x : Nat) : intsV (xs ++ [x]) = intsV xs ++ [.int .i64 (x : Int)] := by simp [intsV]

set_option maxHeartbeats 2000000 in
theorem ahead_any (p : Int) (n BS mb G N B : Nat) (aa : Option Addr) (ac : Nat) (ar : List (Nat × Nat × Nat)) (w : World) (h : w.ownsRow B 129 3 (.slice aa ar.length ac) ar.length (arcsL ar)) (hN : N ≤ 400) (hlen : ar.length ≤ 9600) (har : ∀ a ∈ ar, a.1 < N ∧ a.2.2 < N) :
    Calls Try.prog 104 #[.agg (spV p n BS mb G N (.slice aa ar.length ac))] w fun e w' => AhEnd N ar w e w' := by
  obtain ⟨N2, hN2⟩ : ∃ n, Hid (ar.length = n) := ⟨_, rfl⟩
  have HAR := hide har
  rw [hN2.out] at h hlen ⊢
  obtain ⟨av, hav⟩ : ∃ av, Value.slice aa N2 ac = av := ⟨_, rfl⟩
  have hAl := below_al w (.cells (spV p n BS mb G N av) 73)
  have HV0 := hide (heap_alloc_new w (.cells (spV p n BS mb G N av) 73))
  have HO0 := hide (ownsRow_kept h fun g hg => hAl.block g (own_lt h hg).2)
  have HB0 := hide hAl
  have hmk := run_make_many (P := Try.prog) 27 25 _ 1 24 Try.underlying27 Try.info25a .i64 .i64 N (by omega) (by omega)
  simp only [Value.cells] at hmk
  obtain ⟨i0, hi, hz0, hz1, hz2⟩ := info_split Try.info3
  subst hav
  clear h hAl har
  go_enter Try.func104, Try.ntmps104
  go_upto_region 1 with fail
  generalize w.alloc (.cells (spV p n BS mb G N (.slice aa N2 ac)) 73) = v at *
  obtain ⟨⟨hc0, hc1, hc2, hc3, hc4⟩, _⟩ := cells5 HV0.out
  have HA1 := hide (AhSt.made v N)
  have HB1 := hide (below_al v (.cells (madeCells #[.slice none 0 0] N) 25))
  go_upto_region 2 with fail
  clear hmk hc0 hc1 hc2 hc3 hc4
  generalize v.alloc (.cells (madeCells #[.slice none 0 0] N) 25) = v1 at *
  obtain ⟨⟨hc0, hc1, hc2, hc3, hc4⟩, _⟩ := cells5 (keep HV0.out HB1.out)
  have hvs := HB0.out.size
  go_wp2_with fail
  clear hc0 hc1 hc2 hc3 hc4
  go_loopw [13] (fun i wr => ∃ (k : Nat) (V : Nat → Value), k ≤ N2 ∧ i = .int .i64 k ∧ Hid (Below v.heap.size v wr ∧ AhSt wr v.heap.size N (v.heap.size + 1) (toL (ar.take k)) V)) (fun i _ => N2 - (intOf i).toNat)
  case atStart => exact ⟨0, _, Nat.zero_le _, rfl, HB1.out, HA1.out⟩
  case round =>
    obtain ⟨k, V, hk, rfl, hbr⟩ := hrel
    by_cases hlt : k < N2
    rotate_left
    · have hk' : k = N2 := by omega
      have HE : Hid (AhSt wr v.heap.size N (v.heap.size + 1) (toL ar) V) := by have := hbr.out.2; rwa [hk', ← hN2.out, List.take_length] at this
      have HW := hide (HB0.out.trans (hbr.out.1.mono hvs))
      clear hbr hk
      subst hk'
      have hkk : ¬ (k : Int) < (k : Int) := by omega
      go_wp2_with fail
      go_ret
      exact ⟨_, _, V, rfl, hvs, HE.out, HW.out⟩
    obtain ⟨x, y, z, hxy, hmem⟩ := arc_get (show k < ar.length by rw [hN2.out]; exact hlt)
    obtain ⟨hxN, hzN⟩ : x < N ∧ z < N := HAR.out _ hmem
    obtain ⟨ga, hag, q0, q1, q2⟩ := arcs_at (ownsRow_kept HO0.out fun g' hg' => hbr.out.1.block g' (own_lt HO0.out hg').2) hlt hxy
    have hB2 := below_al wr (.cells #[.int .i64 (x : Int), .int .i64 (y : Int), .int .i64 (z : Int)] 129)
    have HBB := hide (hbr.out.1.trans (hB2.mono hbr.out.1.size))
    have HAH := hide (hbr.out.2.grow hB2)
    have HBX := hide (heap_alloc_new wr (.cells #[.int .i64 (x : Int), .int .i64 (y : Int), .int .i64 (z : Int)] 129))
    have hki : (k : Int) < (N2 : Int) := by omega
    have hk9 : (k : Int) ≤ 9600 := by omega
    have hzi : (z : Int) < (N : Int) := by omega
    have hz0i : (0 : Int) ≤ (z : Int) := by omega
    have HTL := hide (fun j => toL_take hxy j)
    have hlz : (toL (ar.take k) z).length ≤ 9600 := by have := toL_len (ar.take k) z; rw [List.length_take] at this; omega
    have HNB : Hid (∀ g, (V z).ownBlock = some g → g < wr.heap.size) := fun g hg => ((hbr.out.2.row z hzN).lt hg).2
    have hvb : v.heap.size < wr.heap.size := row_lt (hbr.out.2.outer.choose_spec.1)
    subst hag
    clear hbr hB2 hxy hmem
    go_upto_region 5 with fail
    clear q0 q1 q2
    generalize wr.alloc (.cells #[.int .i64 (x : Int), .int .i64 (y : Int), .int .i64 (z : Int)] 129) = w2 at *
    generalize wr.heap.size = bH at *
    have hdr := (Below.refl w2.heap.size w2).drew
    have HBB3 := hide (HBB.out.drew)
    have HAH3 := hide (HAH.out.grow hdr)
    have HBX3 := hide (keep HBX.out hdr)
    have HSW : Hid (∀ W, Below w2.drew.heap.size w2.drew W → W.cell? ⟨bH, 0, none⟩ = some (.int .i64 (x : Int)) ∧ W.cell? ⟨bH, 2, none⟩ = some (.int .i64 (z : Int))) := fun W hW => by
      have hk := keep HBX3.out hW
      exact ⟨(cell_of_row W bH 0 _ _ _ hk).trans rfl, (cell_of_row W bH 2 _ _ _ hk).trans rfl⟩
    refine wp_region_held_drew (S := fun W => W.cell? ⟨bH, 0, none⟩ = some (.int .i64 (x : Int)) ∧ W.cell? ⟨bH, 2, none⟩ = some (.int .i64 (z : Int))) (by kernel_rfl) (HSW.out _ (Below.refl _ _)) (fun hHeld => ?_)
    have hSv := HSW.out _ (Below.refl _ _)
    clear HBB HAH HBX hdr hHeld
    generalize w2.drew = w3 at *
    obtain ⟨va, vc, hvf⟩ := (HAH3.out.row z hzN).form
    refine take_yes (i := 0) (some 17) (.slice (some ⟨v.heap.size, 0, none⟩) N N) rfl rfl (by kernel_rfl) (by kernel_rfl) (by kernel_rfl) (fun _ _ _ h => h) (by rfl) ?_ (by assumption) ?_
    · intro W' hSw
      obtain ⟨hz0, hz2⟩ := hSw
      go_simp
    simp only [Act.put, List.setIfInBounds_toArray, List.set_cons_zero, List.set_cons_succ]
    refine take_yes (i := 1) (some 18) (.pointer (some ⟨bH, 2, none⟩)) rfl rfl (by kernel_rfl) (by kernel_rfl) (by kernel_rfl) (fun _ _ _ h => h) (by rfl) ?_ (by assumption) ?_
    · intro W' hSw
      obtain ⟨hz0, hz2⟩ := hSw
      go_simp
    simp only [Act.put, List.setIfInBounds_toArray, List.set_cons_zero, List.set_cons_succ]
    refine take_yes (i := 2) (some 19) (.int .i64 (z : Int)) rfl rfl (by kernel_rfl) (by kernel_rfl) (by kernel_rfl) (fun _ _ _ h => h) (by rfl) ?_ (by assumption) ?_
    · intro W' hSw
      obtain ⟨hz0, hz2⟩ := hSw
      go_simp
    simp only [Act.put, List.setIfInBounds_toArray, List.set_cons_zero, List.set_cons_succ]
    refine take_yes (i := 3) (some 20) (.slice (some ⟨v.heap.size, 0, none⟩) N N) rfl rfl (by kernel_rfl) (by kernel_rfl) (by kernel_rfl) (fun _ _ _ h => h) (by rfl) ?_ (by assumption) ?_
    · intro W' hSw
      obtain ⟨hz0, hz2⟩ := hSw
      go_simp
    simp only [Act.put, List.setIfInBounds_toArray, List.set_cons_zero, List.set_cons_succ]
    refine take_yes (i := 4) (some 21) (.pointer (some ⟨bH, 2, none⟩)) rfl rfl (by kernel_rfl) (by kernel_rfl) (by kernel_rfl) (fun _ _ _ h => h) (by rfl) ?_ (by assumption) ?_
    · intro W' hSw
      obtain ⟨hz0, hz2⟩ := hSw
      go_simp
    simp only [Act.put, List.setIfInBounds_toArray, List.set_cons_zero, List.set_cons_succ]
    refine take_yes (i := 5) (some 22) (.int .i64 (z : Int)) rfl rfl (by kernel_rfl) (by kernel_rfl) (by kernel_rfl) (fun _ _ _ h => h) (by rfl) ?_ (by assumption) ?_
    · intro W' hSw
      obtain ⟨hz0, hz2⟩ := hSw
      go_simp
    simp only [Act.put, List.setIfInBounds_toArray, List.set_cons_zero, List.set_cons_succ]
    refine take_yes (i := 6) (some 23) (.pointer (some ⟨v.heap.size, z, none⟩)) rfl rfl (by kernel_rfl) (by kernel_rfl) (by kernel_rfl) (fun _ _ _ h => h) (by rfl) ?_ (by assumption) ?_
    · intro W' hSw
      obtain ⟨hz0, hz2⟩ := hSw
      go_simp
    simp only [Act.put, List.setIfInBounds_toArray, List.set_cons_zero, List.set_cons_succ]
    refine take_yes (i := 8) (some 25) (.pointer (some ⟨bH, 0, none⟩)) rfl rfl (by kernel_rfl) (by kernel_rfl) (by kernel_rfl) (fun _ _ _ h => h) (by rfl) ?_ (by assumption) ?_
    · intro W' hSw
      obtain ⟨hz0, hz2⟩ := hSw
      go_simp
    simp only [Act.put, List.setIfInBounds_toArray, List.set_cons_zero, List.set_cons_succ]
    refine take_yes (i := 9) (some 26) (.int .i64 (x : Int)) rfl rfl (by kernel_rfl) (by kernel_rfl) (by kernel_rfl) (fun _ _ _ h => h) (by rfl) ?_ (by assumption) ?_
    · intro W' hSw
      obtain ⟨hz0, hz2⟩ := hSw
      go_simp
    simp only [Act.put, List.setIfInBounds_toArray, List.set_cons_zero, List.set_cons_succ]
    refine any_go [7, 10] (fun i => i + 17) (fun _ => []) (fun x y => Below x.heap.size x y) (fun _ W => Below w3.heap.size w3 W) (fun i u W => (i = 7 → u = V z) ∧ (i = 10 → ∃ g, u = .slice (some ⟨g, 0, none⟩) 1 1 ∧ W.heap[g]? = some (.cells #[.int .i64 (x : Int)] 3 (0, 0)))) (fuel := 3) ?_ (by decide) (fun i _ j _ h => by simpa using h) (by kernel_rfl) (by decide) (by kernel_rfl) (by kernel_rfl) (fun _ W hW => HSW.out W hW) ?_ (Below.refl _ _) ?_
    · rintro i u W W' ⟨h1, h2⟩ hb
      refine ⟨h1, fun e => ?_⟩
      obtain ⟨g, e1, e2⟩ := h2 e
      exact ⟨g, e1, keep e2 hb⟩
    · intro i hi2 Pd a zz W o ho hp hoth hdeps hb K hK
      simp only [List.mem_cons, List.not_mem_nil, or_false] at hi2
      rcases hi2 with rfl | rfl
      all_goals obtain rfl := Option.some.inj ho
      · have e1 := evalD (v := .pointer (some ⟨v.heap.size, z, none⟩)) ((hoth 23 (by decide)).trans rfl)
        have hc := ((HAH3.out.grow hb).cell hzN).1
        exact oper_val rfl (v := V z) (w' := W) (by go_simp) (hK _ _ ⟨fun _ => rfl, fun e => absurd e (by decide)⟩ (Below.refl _ _) hb)
      · have e1 : a.eval (.tmp 26) = .int .i64 (x : Int) := (hoth 26 (by decide)).trans rfl
        exact oper_val rfl (exec_build_one (.tmp 26) rfl (x : Int) e1) (hK _ _ ⟨fun e => absurd e (by decide), fun _ => ⟨_, rfl, heap_alloc_new _ _⟩⟩ (below_al W _) (hb.trans ((below_al W _).mono hb.size)))
    · intro u w4 hb4 hG
      have e7 := (hG 7 (by decide)).1 rfl
      obtain ⟨g10, e10, hg10⟩ := (hG 10 (by decide)).2 rfl
      have HAH4 := hide (HAH3.out.grow hb4)
      have HBB4 := hide (HBB3.out.trans (hb4.mono HBB3.out.size))
      have HBX4 := hide (keep HBX3.out hb4)
      have hbl4 : bH < w4.heap.size := row_lt HBX4.out
      clear hG HAH3 HBB3 HBX3 HSW hSv
      rw [hvf] at e7
      simp only [frmD, lstD, if_true, Act.put, List.setIfInBounds_toArray, List.set_cons_zero, List.set_cons_succ, e7, e10]
      obtain ⟨v', w5, hrun, r1, r2, r3⟩ := run_append_tail (P := Try.prog) (HAH4.out.row z hzN) 25 25 3 i0 _ 8 Try.underlying25 hi hz0 hz1 hz2 rfl (by decide) ⟨g10, 0, none⟩ 1 [.int .i64 (x : Int)] rfl (World.news_of_block hg10) (fun u hu => by simp at hu; subst hu; rfl) (by unfold maxLen; omega) (by omega) (by have := HBB4.out.size; have := row_lt (HAH4.out.outer.choose_spec.1); omega)
      have hne : ∀ g, (V z).ownBlock = some g → g ≠ bH ∧ g ≠ v.heap.size := fun g hg => ⟨by have := HNB.out g hg; omega, by have := ((HAH4.out.row z hzN).lt hg).1; omega⟩
      obtain ⟨C, hC, hCs, hCv⟩ := HAH4.out.outer
      have hC5 : w5.heap[v.heap.size]? = some (.cells C 25 (0, 0)) := (r2.block _ (row_lt hC) (fun e => (hne _ e.symm).2 rfl)).trans hC
      have hX5 := (r2.block _ hbl4 (fun e => (hne _ e.symm).1 rfl)).trans HBX4.out
      have hS5 : (fun W : World => W.cell? ⟨bH, 0, none⟩ = some (.int .i64 (x : Int)) ∧ W.cell? ⟨bH, 2, none⟩ = some (.int .i64 (z : Int))) w5 := ⟨(cell_of_row w5 bH 0 _ _ _ hX5).trans rfl, (cell_of_row w5 bH 2 _ _ _ hX5).trans rfl⟩
      obtain ⟨va2, vc2, hv2⟩ := r1.form
      have hP := HAH4.out.put hzN (rows' := toL (ar.take (k + 1))) r2 (v' := v') (by
        rw [HTL.out z, if_pos rfl, List.length_append, intsV_snocU]; exact r1) r3 (fun j hj => by rw [HTL.out j, if_neg (fun e => hj e.symm)])
      have hB5 := (HBB4.out.grown r2 HBB4.out.size (fun g hg => by have := ((HAH4.out.row z hzN).lt hg).1; omega)).setCell (p := ⟨v.heap.size, z, none⟩) (Nat.le_refl _) v'
      subst hv2
      have HP := hide hP
      have HB6 := hide hB5
      have hS6 : (fun W : World => W.cell? ⟨bH, 0, none⟩ = some (.int .i64 (x : Int)) ∧ W.cell? ⟨bH, 2, none⟩ = some (.int .i64 (z : Int))) (w5.setCell ⟨v.heap.size, z, none⟩ (.slice va2 ((toL (ar.take k) z).length + 1) vc2)) := by
        have hX6 : (w5.setCell ⟨v.heap.size, z, none⟩ (.slice va2 ((toL (ar.take k) z).length + 1) vc2)).heap[bH]? = _ := (Below.heap_setCell _ _ _ _ (show bH ≠ v.heap.size by omega)).trans hX5
        exact ⟨(cell_of_row _ bH 0 _ _ _ hX6).trans rfl, (cell_of_row _ bH 2 _ _ _ hX6).trans rfl⟩
      rw [hvf] at hrun
      refine wpAnyH_ready (rs := [11]) (by kernel_rfl) (by simp) (AllReadyH.cons rfl (fun K hK => ?_) AllReadyH.nil)
      rw [if_pos (by rfl)]
      refine oper_append (some 28) rfl (.tmp 24) (.tmp 27) 25 rfl _ _ _ rfl rfl hrun ?_
      refine hK.out _ _ hS5 (fun _ => ?_)
      clear hK K
      simp only [Act.put, List.setIfInBounds_toArray, List.set_cons_zero, List.set_cons_succ]
      refine take_yes (i := 12) (some 29) (.pointer (some ⟨v.heap.size, z, none⟩)) rfl rfl (by kernel_rfl) (by kernel_rfl) (by kernel_rfl) (fun _ _ _ h => h) (by rfl) ?_ (by assumption) ?_
      · intro W' hSw
        obtain ⟨hz0, hz2⟩ := hSw
        go_simp
      simp only [Act.put, List.setIfInBounds_toArray, List.set_cons_zero, List.set_cons_succ]
      refine store_one_next (i := 13) rfl rfl (by kernel_rfl) (by rfl) 25 _ _ rfl v.heap.size z va2 _ vc2 rfl rfl C 25 hC5 (by omega) (by kernel_rfl) hS6 (fun _ => ?_)
      refine wpAnyH_done (by kernel_rfl) ?_ _
      clear hS5 hS6 hC5 hX5 hC hCs hCv hP hB5 r1 r2 r3 hrun HAH4 HBB4 HBX4 HTL hne hlz hg10 hb4 e7
      generalize (toL (ar.take k) z).length + 1 = nn at *
      generalize w5.setCell ⟨v.heap.size, z, none⟩ (.slice va2 nn vc2) = w6 at *
      go_wp2_with fail
      go_roundw
      case rel => exact ⟨k + 1, _, by omega, by go_num, HB6.out, HP.out⟩
      case measure => simp [intOf]; omega
end Go.Proofs.Ytedbihlpggficaa


/- What alwaysTo keeps in mind: those that are met, in a row of the call's own, and a row of truths. -/
namespace Go.Proofs.Ytedbihlpggficaa
open Go.RowKit
set_option maxRecDepth 10000

def gdL (gd : Nat → Bool) (k : Nat) : List Nat := (List.range k).filter gd
def gdF (gd : Nat → Bool) (k : Nat) : Nat → Bool := fun i => decide (i < k) && gd i

theorem gdL_yes {gd : Nat → Bool} {k : Nat} (h : gd k = true) : gdL gd (k + 1) = gdL gd k ++ [k] ∧ gdF gd (k + 1) = updT (gdF gd k) k := by
  refine ⟨by simp [gdL, List.range_succ, List.filter_append, h], funext fun i => ?_⟩
  unfold gdF updT
  by_cases e : i = k
  · subst e; simp [h]
  · have e1 : (k == i) = false := by simpa using fun q => e q.symm
    have e2 : decide (i < k + 1) = decide (i < k) := by simp only [decide_eq_decide]; omega
    rw [e1, e2, Bool.or_false]
theorem gdL_no {gd : Nat → Bool} {k : Nat} (h : gd k = false) : gdL gd (k + 1) = gdL gd k ∧ gdF gd (k + 1) = gdF gd k := by
  refine ⟨by simp [gdL, List.range_succ, List.filter_append, h], funext fun i => ?_⟩
  unfold gdF
  by_cases e : i = k
  · subst e; simp [h]
  · have e2 : decide (i < k + 1) = decide (i < k) := by simp only [decide_eq_decide]; omega
    rw [e2]

theorem gd_back (ar : List (Nat × Nat × Nat)) (gd : Nat → Bool) (N : Nat) : BackSt ar (fun i => i < N ∧ gd i = true) N 0 (gdL gd N) (gdF gd N) := by
  have key : ∀ i, gdF gd N i = true ↔ i < N ∧ gd i = true := fun i => by simp [gdF]
  refine ⟨fun x hx => ?_, fun i => ?_, ?_, fun i hi => (key i).2 hi, fun i hi => .at_ ((key i).1 hi), fun x hx => by simp at hx⟩
  · simp [gdL] at hx; exact hx.1
  · rw [key i]; simp [gdL]
  · unfold cntT gdL
    congr 1
    apply List.filter_congr
    intro i hi
    have : i < N := by simpa using hi
    simp [gdF, this]

/-- Block F (the first one behind v) holds the truths f; o is a slice of those that are met. -/
structure CoSt (v wr : World) (N : Nat) (o : Value) (come : List Nat) (f : Nat → Bool) : Prop where
  bel : Below v.heap.size v wr
  row : BRow wr v.heap.size N f
  own : wr.ownsRow (v.heap.size + 1) 3 1 o come.length (intsV come)

theorem CoSt.grow {v wr wr' : World} {N : Nat} {o : Value} {come : List Nat} {f : Nat → Bool} (h : CoSt v wr N o come f) (hb : Below wr.heap.size wr wr') : CoSt v wr' N o come f :=
  ⟨h.bel.trans (hb.mono h.bel.size), h.row.grow hb, ownsRow_kept h.own fun g hg => hb.block g (own_lt h.own hg).2⟩

theorem CoSt.first (v : World) (N : Nat) : CoSt v (v.alloc (.cells (madeCells #[.bool false] N) 4)) N (.slice none 0 0) [] (fun _ => false) :=
  ⟨below_al v _, BRow.made v N, World.ownsRow_nil _ _ _ _⟩

theorem CoSt.push {v wr W' : World} {N : Nat} {o v' : Value} {come : List Nat} {f f' : Nat → Bool} {x : Nat} (h : CoSt v wr N o come f) (hx : x < N) (hr : W'.ownsRow (v.heap.size + 1) 3 1 v' (come.length + 1) (intsV come ++ [.int .i64 (x : Int)])) (hg : wr.grownBy W' o.ownBlock) (hf : ∀ t, f' t = (f t || x == t)) :
    CoSt v (W'.setCell ⟨v.heap.size, x, none⟩ (.bool true)) N v' (come ++ [x]) f' := by
  obtain ⟨C, h1, h2, h3⟩ := h.row
  have hne : ∀ g, o.ownBlock = some g → g ≠ v.heap.size := fun g hgg => by have := (own_lt h.own hgg).1; omega
  have hF : W'.heap[v.heap.size]? = some (.cells C 4 (0, 0)) := (hg.block _ (row_lt h1) (fun e => hne _ e.symm rfl)).trans h1
  refine ⟨(h.bel.grown hg h.bel.size (fun g hgg => by have := (own_lt h.own hgg).1; omega)).setCell (p := ⟨v.heap.size, x, none⟩) (Nat.le_refl _) _, BRow.set ⟨C, hF, h2, h3⟩ hx hf, ?_⟩
  rw [List.length_append, intsV_snocU]
  exact ownsRow_kept hr fun g hgg => Below.heap_setCell _ _ _ _ (show g ≠ v.heap.size by have := (own_lt hr hgg).1; omega)

theorem CoSt.spot {v wr W' : World} {N : Nat} {o : Value} {come : List Nat} {f : Nat → Bool} {x : Nat} (h : CoSt v wr N o come f) (hg : wr.grownBy W' o.ownBlock) (hx : x < N) : W'.cell? ⟨v.heap.size, x, none⟩ = some (.bool (f x)) ∧ W'.frozen? ⟨v.heap.size, x, none⟩ = false := by
  obtain ⟨C, h1, h2, h3⟩ := h.row
  have hne : ∀ g, o.ownBlock = some g → g ≠ v.heap.size := fun g hgg => by have := (own_lt h.own hgg).1; omega
  have hF : W'.heap[v.heap.size]? = some (.cells C 4 (0, 0)) := (hg.block _ (row_lt h1) (fun e => hne _ e.symm rfl)).trans h1
  exact (BRow.cell ⟨C, hF, h2, h3⟩ hx)

/-- The blocks from R on that were there in w9 stay as they were; o's block is none of them. -/
structure Far (w9 wq : World) (R : Nat) (o : Value) : Prop where
  same : ∀ g, R ≤ g → g < w9.heap.size → wq.heap[g]? = w9.heap[g]?
  own : ∀ g, o.ownBlock = some g → g < R ∨ w9.heap.size ≤ g
  size : w9.heap.size ≤ wq.heap.size

theorem lies_of {o : Value} {g g' n cp S H : Nat} (hl : o.ownBlock = some g ∨ g = H + 1) (hg : (Value.slice (some ⟨g, 0, none⟩) n cp).ownBlock = some g') (hS : S ≤ H) : o.ownBlock = some g' ∨ S ≤ g' := by
  simp [Value.ownBlock] at hg
  subst hg
  rcases hl with q | q
  · exact .inl q
  · exact .inr (by omega)

theorem Far.first (w9 : World) (R : Nat) {o : Value} (h : ∀ g, o.ownBlock = some g → g < R) : Far w9 w9 R o := ⟨fun _ _ _ => rfl, fun g hg => .inl (h g hg), Nat.le_refl _⟩

theorem Far.push {w9 wq W1 W' : World} {R F x : Nat} {o v' : Value} (h : Far w9 wq R o) (hb : Below wq.heap.size wq W1) (hg : W1.grownBy W' o.ownBlock) (hv : ∀ g, v'.ownBlock = some g → o.ownBlock = some g ∨ w9.heap.size ≤ g) (hF : F < R) (u : Value) : Far w9 (W'.setCell ⟨F, x, none⟩ u) R v' := by
  refine ⟨fun g h1 h2 => ?_, fun g hg' => ?_, ?_⟩
  · refine (Below.heap_setCell _ _ _ _ (show g ≠ F by omega)).trans ((hg.block g (by have := hb.size; have := h.size; omega) (fun e => ?_)).trans ((hb.block g (by have := h.size; omega)).trans (h.same g h1 h2)))
    rcases h.own g e.symm with q | q <;> omega
  · rcases hv g hg' with q | q
    · exact h.own g q
    · exact .inr q
  · rw [size_setCell]; have := hb.size; have := hg.size; have := h.size; omega

theorem CoSt.at_ {v wr : World} {N : Nat} {o : Value} {come : List Nat} {f : Nat → Bool} (h : CoSt v wr N o come f) {k x : Nat} (hx : come[k]? = some x) : ∃ g cap, o = .slice (some ⟨g, 0, none⟩) come.length cap ∧ wr.cell? ⟨g, k, none⟩ = some (.int .i64 (x : Int)) := by
  have hk : k < come.length := (List.getElem?_eq_some_iff.mp hx).1
  have ho := h.own
  rcases ho.2 with ⟨_, h0⟩ | ⟨g, cap, cur, rfl, hb, hg, hn, hc, hs, ht⟩
  · omega
  · refine ⟨g, cap, rfl, ?_⟩
    rw [ho.cellAt k (by omega)]
    simp [intsV, List.getElem?_map, hx]

theorem CoSt.form {v wr : World} {N : Nat} {o : Value} {come : List Nat} {f : Nat → Bool} (h : CoSt v wr N o come f) : ∃ a c, o = .slice a come.length c := by
  rcases h.own.2 with ⟨rfl, h0⟩ | ⟨g, cap, cur, rfl, _⟩
  · exact ⟨none, 0, by rw [h0]⟩
  · exact ⟨_, _, rfl⟩

/-- A row of the ones that fire there, read later. -/
theorem AhSt.later {w9 wq : World} {R N base : Nat} {rows : Nat → List Nat} {V : Nat → Value} (h : AhSt w9 R N base rows V) {o : Value} (hf : Far w9 wq R o) {x : Nat} (hx : x < N) : wq.cell? ⟨R, x, none⟩ = some (V x) ∧ Tail wq base 1 (V x) (rows x).length (intsV (rows x)) := by
  obtain ⟨C, h1, h2, h3⟩ := h.outer
  refine ⟨?_, (h.row x hx).kept hf.size fun g hg => hf.same g (by have := ((h.row x hx).lt hg).1; have := h.low; omega) ((h.row x hx).lt hg).2⟩
  rw [cell_of_row wq R x C _ _ ((hf.same R (Nat.le_refl _) (row_lt h1)).trans h1)]
  exact h3 x hx

theorem Tail.atU {w : World} {B : Nat} {va : Option Addr} {vc n : Nat} {rs : List Nat} (h : Tail w B 1 (.slice va n vc) n (intsV rs)) {j y : Nat} (hy : rs[j]? = some y) : ∃ g off, va = some ⟨g, off, none⟩ ∧ w.cell? ⟨g, off + j, none⟩ = some (.int .i64 (y : Int)) := by
  have hl := h.1
  have hj : j < rs.length := (List.getElem?_eq_some_iff.mp hy).1
  have hl2 : (intsV rs).length = rs.length := by simp [intsV]
  rcases h.2 with ⟨_, h0⟩ | ⟨g, off, cap, e, _, _, _, _, h5, _⟩
  · omega
  · simp only [Value.slice.injEq] at e
    obtain ⟨rfl, _, _⟩ := e
    exact ⟨g, off, rfl, h5 j _ (by simp [intsV, List.getElem?_map, hy])⟩

/-- How alwaysTo ends. -/
def AtEnd (ar : List (Nat × Nat × Nat)) (gd : Nat → Bool) (N : Nat) (w : World) (e : Ending) (w' : World) : Prop :=
  ∃ b, e = .returned (.bool b) ∧ (b = true ↔ ∀ i, i < N → CanTo ar (fun x => x < N ∧ gd x = true) i) ∧ Below w.heap.size w w'

theorem one_cellU (w : World) (x : Int) : ∀ j u, ([.int .i64 x] : List Value)[j]? = some u → (w.alloc (.cells #[.int .i64 x] 3)).cell? ((⟨w.heap.size, 0, none⟩ : Addr).add j) = some u := one_cell w _
end Go.Proofs.Ytedbihlpggficaa


/- alwaysTo with the closure (impl.markSpace).neverLoses$1. -/
namespace Go.Proofs.Ytedbihlpggficaa
open Go.RowKit
set_option maxRecDepth 10000

set_option maxHeartbeats 4000000 in
theorem alwaysLive_any (p : Int) (n BS mb G N B l : Nat) (q : Addr) (aa : Option Addr) (ac : Nat) (ms : List (List Int)) (gd : Nat → Bool) (ar : List (Nat × Nat × Nat)) (w : World) (h : w.ownsRow B 129 3 (.slice aa ar.length ac) ar.length (arcsL ar)) (ht : TokAll w G l ms) (hms : ms.length = N) (hN : N ≤ 400) (hlen : ar.length ≤ 9600) (har : ∀ a ∈ ar, a.1 < N ∧ a.2.2 < N)
    (hc : ∀ W, Below w.heap.size w W → ∀ k, k < N → Calls Try.prog 101 #[.agg (packOf (ms.getD k []) l), .pointer (some q)] W fun e W' => e = .returned (.bool (gd k)) ∧ Below W.heap.size W W') :
    Calls Try.prog 67 #[.agg (spV p n BS mb G N (.slice aa ar.length ac)), .func (.func 101) #[] #[.pointer (some q)]] w fun e w' => AtEnd ar gd N w e w' := by
  obtain ⟨N2, hN2⟩ : ∃ n, Hid (ar.length = n) := ⟨_, rfl⟩
  have HAR := hide har
  have HMS := hide hms
  have HCC := hide hc
  have HTT := hide ht
  have hlen2 := hlen
  rw [hN2.out] at hlen
  obtain ⟨av, hav⟩ : ∃ av, Hid (Value.slice aa ar.length ac = av) := ⟨_, rfl⟩
  have hav1 : av.oneCell' = true := by rw [← hav.out]; rfl
  have HO := hide h
  rw [hav.out]
  have hAl := below_al w (.cells (spV p n BS mb G N av) 73)
  have HV0 := hide (heap_alloc_new w (.cells (spV p n BS mb G N av) 73))
  have HB0 := hide hAl
  have hmk := run_make_many (P := Try.prog) 148 4 (.bool false) 1 1 Try.underlying148 Try.info4 .i64 .i64 N (by omega) (by omega)
  obtain ⟨i0, hi, hz0, hz1, hz2⟩ := info_split Try.info3
  clear h hAl har hms hc ht
  go_enter Try.func67, Try.ntmps67
  go_upto_region 2 with fail
  generalize w.alloc (.cells (spV p n BS mb G N av) 73) = v at *
  obtain ⟨⟨hc0, hc1, hc2, hc3, hc4⟩, _⟩ := cells5 HV0.out
  have HC1 := hide (CoSt.first v N)
  go_upto_region 3 with fail
  clear hmk hc0 hc1 hc2 hc3 hc4
  generalize v.alloc (.cells (madeCells #[.bool false] N) 4) = v1 at *
  obtain ⟨⟨hc0, hc1, hc2, hc3, hc4⟩, _⟩ := cells5 (keep HV0.out HC1.out.bel)
  have hvs := HB0.out.size
  go_wp2_with fail
  clear hc0 hc1 hc2 hc3 hc4
  go_loopw [5, 20] (fun o i wr => ∃ k : Nat, k ≤ N ∧ i = .int .i64 k ∧ Hid (CoSt v wr N o (gdL gd k) (gdF gd k))) (fun _ i _ => N - (intOf i).toNat)
  case atStart => exact ⟨0, Nat.zero_le _, rfl, by rw [show gdF gd 0 = fun _ => false from by funext i; simp [gdF]]; exact HC1⟩
  case round =>
    obtain ⟨k, hk, rfl, hco⟩ := hrel
    by_cases hlt : k < N
    rotate_left
    · have hk' : k = N := by omega
      have HCO := hide hco.out
      rw [hk'] at HCO
      have hkk : ¬ (k : Int) < (N : Int) := by omega
      clear hco hk hk' hlt
      have HBK := hide (gd_back ar gd N)
      generalize gdL gd N = cs at *
      generalize gdF gd N = cf at *
      have hz5 := keep HV0.out HCO.out.bel
      have hFw : v.heap.size < wr.heap.size := row_lt HCO.out.row.choose_spec.1
      have HAH := hide (ahead_any p n BS mb G N B aa ac ar wr (ownsRow_kept HO.out fun g hg => (HB0.out.trans (HCO.out.bel.mono hvs)).block g (own_lt HO.out hg).2) hN hlen2 HAR.out)
      rw [hav.out] at HAH
      have HOL : Hid (∀ g, u5.ownBlock = some g → g < wr.heap.size) := fun g hg => (own_lt HCO.out.own hg).2
      go_wp2_with (first
        | ((show wpList _ _ _ (⟨some 36, .load 73 (.tmp 2), _, _, _, _⟩ :: _) _ _); refine wpList_load_row rfl 73 (.tmp 2) rfl _ rfl 73 (spV p n BS mb G N av) (0, 0) _ hz5 Try.underlying73 rfl Try.size73 ?_)
        | (go_at_call 104; refine HAH.out.mono ?_; rintro e w9 ⟨R, base, V, rfl, hR, hah, hb9⟩; have HAS := hide hah; have HCO9 := hide (HCO.out.grow hb9); have HFAR := hide (Far.first w9 R (o := u5) (fun g hg => Nat.lt_of_lt_of_le (HOL.out g hg) hR)); clear hah hb9))
      clear HAH hz5 HOL
      generalize u5 = o5 at *
      clear HCO
      have hFR : v.heap.size < R := by omega
      go_loopw [5, 10] (fun o i wq => ∃ (k : Nat) (come : List Nat) (f : Nat → Bool), k ≤ come.length ∧ i = .int .i64 k ∧ Hid (CoSt v wq N o come f) ∧ Hid (BackSt ar (fun i => i < N ∧ gd i = true) N k come f) ∧ Hid (Far w9 wq R o)) (fun _ i _ => N - (intOf i).toNat)
      case atStart => exact ⟨0, cs, cf, Nat.zero_le _, rfl, HCO9, HBK, HFAR⟩
      case round =>
        obtain ⟨k2, come, f, hk2, rfl, hco2, hbk, hfar⟩ := hrel
        clear HCO9 HBK HFAR
        have hcN : come.length ≤ N := by rw [hbk.out.cnt]; exact cntT_le _ _
        by_cases hlt2 : k2 < come.length
        rotate_left
        · have HEQ : Hid (come.length = N ↔ ∀ i, i < N → CanTo ar (fun x => x < N ∧ gd x = true) i) := by
            show _ ↔ _
            rw [hbk.out.cnt, cntT_all]
            exact ⟨fun h i hi => (hbk.out.fin (by omega) i).1 (h i hi), fun h i hi => (hbk.out.fin (by omega) i).2 (h i hi)⟩
          have HBW := hide (HB0.out.trans (hco2.out.bel.mono hvs))
          obtain ⟨⟨hc0, hc1, hc2, hc3, hc4⟩, _⟩ := cells5 (keep HV0.out hco2.out.bel)
          obtain ⟨oa, oc, rfl⟩ := hco2.out.form
          have hnl : ¬ (k2 : Int) < (come.length : Int) := by omega
          clear hbk hfar hco2 hlt2 hk2
          generalize come.length = cl at *
          by_cases hcl : cl = N
          · subst hcl
            have hyes := HEQ.out.1 rfl
            have HY := hide hyes
            clear HEQ hyes
            go_wp2_with fail
            go_ret
            exact ⟨true, rfl, ⟨fun _ => HY.out, fun _ => rfl⟩, HBW.out⟩
          · have hne : ((cl : Int) == (N : Int)) = false := by simp; omega
            have HNN : Hid (¬ ∀ i, i < N → CanTo ar (fun x => x < N ∧ gd x = true) i) := fun h => hcl (HEQ.out.2 h)
            clear HEQ
            go_wp2_with fail
            go_ret
            exact ⟨false, rfl, ⟨fun h => (by cases h), fun h => absurd h HNN.out⟩, HBW.out⟩
        obtain ⟨x, hx⟩ : ∃ x, Hid (come[k2]? = some x) := ⟨_, List.getElem?_eq_getElem hlt2⟩
        have hxN : x < N := hbk.out.lt x (List.mem_of_getElem? hx.out)
        obtain ⟨og, oc, hou, hcx⟩ := hco2.out.at_ hx.out
        obtain ⟨hrx, hta⟩ := HAS.out.later hfar.out hxN
        obtain ⟨va, vc, hva⟩ := hta.form
        rw [hva] at hrx hta
        have HTA9 : Hid (V x = .slice va (toL ar x).length vc) := hva
        have hln : (toL ar x).length ≤ 9600 := by have := toL_len ar x; omega
        obtain ⟨ln, hlne⟩ : ∃ ln, Hid ((toL ar x).length = ln) := ⟨_, rfl⟩
        rw [hlne.out] at hrx hta HTA9 hln
        have hki : (k2 : Int) < (come.length : Int) := by omega
        have hxi : (x : Int) < (N : Int) := by omega
        have hx0 : (0 : Int) ≤ (x : Int) := by omega
        have hk20 : (0 : Int) ≤ (k2 : Int) := by omega
        have hk24 : (k2 : Int) ≤ 400 := by omega
        have HK2 := hide hlt2
        have HCN := hide hcN
        clear hta hva
        subst hou
        go_wp2_with fail
        clear hcx hrx
        generalize wr = wq0 at *
        clear hki
        go_loopw [5, 52] (fun o j wq => ∃ (jj : Nat) (come' : List Nat) (f' : Nat → Bool), jj ≤ ln ∧ j = .int .i64 jj ∧ Hid (CoSt v wq N o come' f') ∧ Hid (BackSt ar (fun i => i < N ∧ gd i = true) N k2 come' f') ∧ Hid (Far w9 wq R o) ∧ Hid (come'[k2]? = some x) ∧ Hid (∀ i ∈ (toL ar x).take jj, f' i = true)) (fun _ j _ => ln - (intOf j).toNat)
        case atStart => exact ⟨0, come, f, Nat.zero_le _, rfl, hco2, hbk, hfar, hx, fun i hi => by simp at hi⟩
        case round =>
          obtain ⟨jj, come', f', hjj, rfl, hco3, hbk3, hfar3, hx3, hall⟩ := hrel
          clear hco2 hbk hfar hx
          by_cases hlt3 : jj < ln
          rotate_left
          · have HNX := hide (hbk3.out.next hx3.out (fun i t hi => hall.out i (by rw [List.take_of_length_le (by rw [hlne.out]; omega)]; exact toL_mem.2 ⟨t, hi⟩)))
            have hk3 : k2 + 1 ≤ come'.length := (List.getElem?_eq_some_iff.mp hx3.out).1
            have hkN2 : k2 < N := by have := HCN.out; have := HK2.out; omega
            have hnl : ¬ (jj : Int) < (ln : Int) := by omega
            clear hbk3 hx3 hall hlt3 hjj
            go_wp2_with fail
            go_roundw
            case rel => exact ⟨k2 + 1, come', f', hk3, by go_num, hco3, HNX, hfar3⟩
            case measure => simp [intOf]; omega
          obtain ⟨y, hy⟩ : ∃ y, Hid ((toL ar x)[jj]? = some y) := ⟨_, List.getElem?_eq_getElem (by rw [hlne.out]; exact hlt3)⟩
          obtain ⟨t, hta⟩ := toL_mem.1 (List.mem_of_getElem? hy.out)
          have HTA := hide hta
          have hyN : y < N := (HAR.out _ hta).1
          obtain ⟨_, htl⟩ := HAS.out.later hfar3.out hxN
          rw [HTA9.out, hlne.out] at htl
          obtain ⟨yg, yo, rfl, hcy⟩ := htl.atU hy.out
          obtain ⟨hs0, hs1⟩ := hco3.out.row.cell hyN
          have hji : (jj : Int) < (ln : Int) := by omega
          have hj0 : (0 : Int) ≤ (jj : Int) := by omega
          have hj9 : (jj : Int) ≤ 9600 := by omega
          have hyi : (y : Int) < (N : Int) := by omega
          have hy0 : (0 : Int) ≤ (y : Int) := by omega
          have hy4 : (y : Int) ≤ 400 := by omega
          have hclen : come'.length ≤ N := by rw [hbk3.out.cnt]; exact cntT_le _ _
          have HALL : Hid (∀ g : Nat → Bool, (∀ i, f' i = true → g i = true) → g y = true → ∀ i ∈ (toL ar x).take (jj + 1), g i = true) := fun g h1 h2 i hi => by
            rw [List.take_add_one, hy.out] at hi
            rcases List.mem_append.1 hi with q | q
            · exact h1 i (hall.out i q)
            · simp at q; rw [q]; exact h2
          clear htl hta hall
          cases hfy : f' y
          · rw [hfy] at hs0
            have HMT := hide (hbk3.out.meet (List.mem_of_getElem? hx3.out) HTA.out hyN hfy (by have := (List.getElem?_eq_some_iff.mp hx3.out).1; omega))
            have HX3 : Hid ((come' ++ [y])[k2]? = some x) := by
              have hl := (List.getElem?_eq_some_iff.mp hx3.out).1
              show _ = _
              rw [List.getElem?_append_left hl]; exact hx3.out
            have HA2 := hide (HALL.out (updT f' y) (fun i hi => updT_old hi) (updT_at f' y))
            have hA2 := below_al wr (.cells #[.int .i64 (y : Int)] 3)
            have HA3 := hide hA2
            have HCO4 := hide (hco3.out.grow hA2)
            have HFA := hide hfar3.out
            have HCE : Hid (∀ j u, ([.int .i64 (y : Int)] : List Value)[j]? = some u → (wr.alloc (.cells #[.int .i64 (y : Int)] 3)).cell? ((⟨wr.heap.size, 0, none⟩ : Addr).add j) = some u) := one_cell wr _
            have H1c : Hid (∀ u ∈ ([.int .i64 (y : Int)] : List Value), u.oneCell' = true) := fun u hu => by simp at hu; subst hu; rfl
            have HX := hide (show come'.length + 1 ≤ maxLen by unfold maxLen; omega)
            have HY := hide (show (come'.length + 1) * 8 ≤ 140737488355328 by omega)
            have HZ : Hid (v.heap.size + 1 ≤ (wr.alloc (.cells #[.int .i64 (y : Int)] 3)).heap.size) := row_lt HCO4.out.row.choose_spec.1
            have HZ9 := hide hfar3.out.size
            clear hA2 hco3 hbk3 hfar3 hx3 HALL hfy
            go_upto_region 19 with (at_builtin; refine wpList_append_lies _ rfl (.tmp 61) (.tmp 63) 25 rfl (v.heap.size + 1) 3 i0 (.int .i64 0) 1 8 Try.underlying25 hi hz0 hz1 hz2 rfl (by decide) u5 come'.length _ rfl HCO4.out.own ⟨wr.heap.size, 0, none⟩ 1 1 [.int .i64 (y : Int)] rfl rfl HCE.out H1c.out (by decide) HX.out HY.out HZ.out (wr.heap.size + 1) (by simp) ?_; intro g cp W' hown hgr hlies hglt)
            obtain ⟨hs2, hs3⟩ := HCO4.out.spot hgr hyN
            have HP := hide (HCO4.out.push hyN hown hgr (fun t => rfl))
            have HF2 := hide (Far.push (x := y) (v' := .slice (some ⟨g, 0, none⟩) (come'.length + 1) cp) HFA.out HA3.out hgr (fun g' hg' => lies_of hlies hg' HZ9.out) hFR (.bool true))
            clear hown hgr hlies hglt
            go_wp2_with fail
            go_roundw
            case rel => exact ⟨jj + 1, come' ++ [y], updT f' y, by omega, by go_num, HP, HMT, HF2, HX3, HA2⟩
            case measure => simp [intOf]; omega
          · rw [hfy] at hs0
            have HA2 := hide (HALL.out f' (fun i hi => hi) hfy)
            clear HALL hfy
            go_wp2_with fail
            go_roundw
            case rel => exact ⟨jj + 1, come', f', by omega, by go_num, hco3, hbk3, hfar3, hx3, HA2⟩
            case measure => simp [intOf]; omega
    have hrg := (HTT.out.grow (HB0.out.trans (hco.out.bel.mono hvs))).cells k (by rw [HMS.out]; exact hlt)
    obtain ⟨m, hm⟩ : ∃ m, Hid (ms.getD k [] = m) := ⟨_, rfl⟩
    rw [hm.out] at hrg
    have hkN : (k : Int) < (N : Int) := by omega
    have hk0 : (0 : Int) ≤ (k : Int) := by omega
    have hk4 : (k : Int) ≤ 400 := by omega
    have hA1 := below_al wr (.cells #[.int .u8 0, .int .u8 0, .int .u8 0, .int .u8 0, .int .u8 0, .int .u8 0, .int .u8 0, .int .u8 0, .int .u8 0, .int .u8 0, .int .u8 0, .int .u8 0, .int .u8 0, .int .u8 0, .int .u8 0, .int .u8 0] 84)
    have hg0 := heap_alloc_new wr (.cells #[.int .u8 0, .int .u8 0, .int .u8 0, .int .u8 0, .int .u8 0, .int .u8 0, .int .u8 0, .int .u8 0, .int .u8 0, .int .u8 0, .int .u8 0, .int .u8 0, .int .u8 0, .int .u8 0, .int .u8 0, .int .u8 0] 84)
    have hV := below_setRow hA1 wr.heap.size (Nat.le_refl _) (packOf m l)
    have hz := setRow_same hg0 (packOf m l)
    have HCO2 := hide (hco.out.grow hV)
    have HHC := hide (HCC.out _ (HB0.out.trans (HCO2.out.bel.mono hvs)) k hlt)
    rw [hm.out] at HHC
    have hlk : (gdL gd k).length ≤ k := by unfold gdL; have := List.length_filter_le gd (List.range k); rwa [List.length_range] at this
    have hseen := hco.out.row
    clear hco hA1 hV hseen
    go_upto_region 7 with (first
      | ((show wpList _ _ _ (⟨some 24, .load 84 (.tmp 23), _, _, _, _⟩ :: _) _ _); refine wpList_load_tokQ rfl (.tmp 23) rfl G (k * 16) rfl l m hrg ?_)
      | ((show wpList _ _ _ (⟨none, .store 84 (.tmp 8) (.tmp 24), _, _, _, _⟩ :: _) _ _); refine wpList_store_row rfl 84 _ _ rfl _ _ rfl rfl 84 _ hg0 (by rw [packOf_size]; exact Try.size84) (by rw [packOf_size]; rfl) (packOf_one _ _) ?_)
      | ((show wpList _ _ _ (⟨some 26, .load 84 (.tmp 8), _, _, _, _⟩ :: _) _ _); refine wpList_load_row rfl 84 (.tmp 8) rfl _ rfl 84 (packOf m l) (0, 0) _ hz Try.underlying84 rfl (by rw [packOf_size]; exact Try.size84) ?_))
    refine HHC.out.mono ?_
    rintro e w2 ⟨rfl, hb⟩
    have HCO3 := hide (HCO2.out.grow hb)
    clear HHC HCO2 hb hg0 hz hrg
    generalize (wr.alloc (.cells #[.int .u8 0, .int .u8 0, .int .u8 0, .int .u8 0, .int .u8 0, .int .u8 0, .int .u8 0, .int .u8 0, .int .u8 0, .int .u8 0, .int .u8 0, .int .u8 0, .int .u8 0, .int .u8 0, .int .u8 0, .int .u8 0] 84)).setRow wr.heap.size (packOf m l) = wx at *
    cases hgk : gd k
    · obtain ⟨e1, e2⟩ := gdL_no hgk
      rw [← e1, ← e2] at HCO3
      clear hgk e1 e2
      go_wp2_with fail
      go_roundw
      case rel => exact ⟨k + 1, by omega, by go_num, HCO3⟩
      case measure => simp [intOf]; omega
    · obtain ⟨e1, e2⟩ := gdL_yes hgk
      have HE := hide (And.intro e1 e2)
      clear hgk e1 e2
      generalize gdL gd k = cs at *
      generalize gdF gd k = cf at *
      have hA2 := below_al w2 (.cells #[.int .i64 (k : Int)] 3)
      have HCO4 := hide (HCO3.out.grow hA2)
      have HCE : Hid (∀ j u, ([.int .i64 (k : Int)] : List Value)[j]? = some u → (w2.alloc (.cells #[.int .i64 (k : Int)] 3)).cell? ((⟨w2.heap.size, 0, none⟩ : Addr).add j) = some u) := one_cell w2 _
      have H1c : Hid (∀ u ∈ ([.int .i64 (k : Int)] : List Value), u.oneCell' = true) := fun u hu => by simp at hu; subst hu; rfl
      have HX := hide (show cs.length + 1 ≤ maxLen by unfold maxLen; omega)
      have HY := hide (show (cs.length + 1) * 8 ≤ 140737488355328 by omega)
      have HZ : Hid (v.heap.size + 1 ≤ (w2.alloc (.cells #[.int .i64 (k : Int)] 3)).heap.size) := row_lt HCO4.out.row.choose_spec.1
      clear hA2 HCO3
      go_wp2_with (refine wpList_append_own _ rfl (.tmp 28) (.tmp 30) 25 rfl (v.heap.size + 1) 3 i0 (.int .i64 0) 1 8 Try.underlying25 hi hz0 hz1 hz2 rfl (by decide) u5 cs.length _ rfl HCO4.out.own ⟨w2.heap.size, 0, none⟩ 1 1 [.int .i64 (k : Int)] rfl rfl HCE.out H1c.out HX.out HY.out HZ.out ?_; intro v' W' r1 r2 r3; obtain ⟨hs0, hs1⟩ := HCO4.out.spot r2 hlt; have HP := hide (HCO4.out.push hlt r1 r2 (fun t => rfl)); clear r1 r2 r3)
      go_roundw
      case rel => exact ⟨k + 1, by omega, by go_num, by rw [HE.out.1, HE.out.2]; exact HP⟩
      case measure => simp [intOf]; omega
end Go.Proofs.Ytedbihlpggficaa
