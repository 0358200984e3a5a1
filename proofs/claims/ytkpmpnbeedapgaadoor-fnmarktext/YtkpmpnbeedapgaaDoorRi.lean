/- What the program's ReadMark answers, for every number of places and every text: the numbers and true where the text is that of a mark, else nothing and false; the table of constants is read as the program lays it; nothing that was there is written. -/
import Derived.Test.YtkpmpnbeedapgaaDoorRd
import Derived.Test.YtkpmpnbeedapgaaDoorMk0
namespace Go.Proofs.YtkpmpnbeedapgaaDoor
open Go.RowKit

def kindB (b : Int) : Nat := if b = 48 then 0 else if 49 ≤ b ∧ b ≤ 57 then 1 else if b = 32 then 2 else 3

def bytesOf (s : ByteArray) : List Int := s.data.toList.map fun b => (b.toNat : Int)

theorem bytesOf_len (s : ByteArray) : (bytesOf s).length = s.size := by simp [bytesOf]
theorem bytesOf_at (s : ByteArray) (k : Nat) (h : k < s.size) : Hid ((bytesOf s)[k]? = some ((s[k]'h).toNat : Int)) := by
  show (bytesOf s)[k]? = _
  unfold bytesOf
  rw [List.getElem?_map, List.getElem?_eq_getElem (by simpa using h)]
  rfl

theorem kind_any (b : Int) (w : World) : Calls Tryd.prog 24 #[.int .u8 b] w fun e w' => e = .returned (.int .i64 (kindB b : Int)) ∧ w' = w := by
  unfold kindB
  by_cases h0 : b = 48
  · subst h0
    go_enter Tryd.func24, Tryd.ntmps24
    go_wp2
    go_ret
    exact ⟨rfl, rfl⟩
  have e0 : (b == 48) = false := by simpa using h0
  rw [if_neg h0]
  by_cases h1 : 49 ≤ b
  · by_cases h2 : b ≤ 57
    · rw [if_pos ⟨h1, h2⟩]
      go_enter Tryd.func24, Tryd.ntmps24
      go_wp2
      go_ret
      exact ⟨rfl, rfl⟩
    · rw [if_neg (by omega), if_neg (by omega)]
      have e1 : (b == 32) = false := by simp; omega
      go_enter Tryd.func24, Tryd.ntmps24
      go_wp2
      go_ret
      exact ⟨rfl, rfl⟩
  · rw [if_neg (by omega)]
    by_cases h3 : b = 32
    · subst h3
      go_enter Tryd.func24, Tryd.ntmps24
      go_wp2
      go_ret
      exact ⟨rfl, rfl⟩
    · have e1 : (b == 32) = false := by simpa using h3
      rw [if_neg h3]
      have hd : decide (49 ≤ b) = false := by simpa using h1
      go_enter Tryd.func24, Tryd.ntmps24
      go_wp2
      go_ret
      exact ⟨rfl, rfl⟩

theorem kind0 : kindB 48 = 0 := rfl
theorem kind1 {x : Int} (h : 49 ≤ x ∧ x ≤ 57) : kindB x = 1 := by unfold kindB; rw [if_neg (by omega), if_pos h]
theorem kind2 : kindB 32 = 2 := rfl
theorem kind3 {x : Int} (h0 : x ≠ 48) (h1 : ¬ (49 ≤ x ∧ x ≤ 57)) (h2 : x ≠ 32) : kindB x = 3 := by unfold kindB; rw [if_neg h0, if_neg h1, if_neg h2]

theorem cellsOf_set (m : List Int) (a : Nat) (v : Int) : (cellsOf m).setIfInBounds a (.int .i64 v) = cellsOf (m.set a v) := by
  unfold cellsOf
  rw [List.map_set]
  simp

/-- The table, as the program's text lays it, in the block g. -/
def Tab (g : Nat) (w : World) : Prop :=
  w.cell? ⟨g, 0, none⟩ = some (.int .i64 1) ∧ w.cell? ⟨g, 1, none⟩ = some (.int .i64 2) ∧ w.cell? ⟨g, 2, none⟩ = some (.int .i64 3) ∧ w.cell? ⟨g, 3, none⟩ = some (.int .i64 3) ∧
  w.cell? ⟨g, 4, none⟩ = some (.int .i64 3) ∧ w.cell? ⟨g, 5, none⟩ = some (.int .i64 3) ∧ w.cell? ⟨g, 6, none⟩ = some (.int .i64 0) ∧ w.cell? ⟨g, 7, none⟩ = some (.int .i64 3) ∧
  w.cell? ⟨g, 8, none⟩ = some (.int .i64 2) ∧ w.cell? ⟨g, 9, none⟩ = some (.int .i64 2) ∧ w.cell? ⟨g, 10, none⟩ = some (.int .i64 0) ∧ w.cell? ⟨g, 11, none⟩ = some (.int .i64 3)

theorem Tab.below {g : Nat} {w w' : World} (h : Tab g w) (hb : Below w.heap.size w w') : Tab g w' := by
  have hg : g < w.heap.size := by have := block_lt_of_cell h.1; simpa using this
  obtain ⟨h0, h1, h2, h3, h4, h5, h6, h7, h8, h9, h10, h11⟩ := h
  have e : ∀ i, w'.cell? ⟨g, i, none⟩ = w.cell? ⟨g, i, none⟩ := fun i => hb.cell (p := ⟨g, i, none⟩) hg
  exact ⟨(e _).trans h0, (e _).trans h1, (e _).trans h2, (e _).trans h3, (e _).trans h4, (e _).trans h5, (e _).trans h6, (e _).trans h7, (e _).trans h8, (e _).trans h9, (e _).trans h10, (e _).trans h11⟩

def ReadE (ok : Bool) (r : List Int) (w : World) (e : Ending) (w' : World) : Prop :=
  ∃ a b n, e = .returned (.tuple #[.slice a n n, .bool ok]) ∧ Blk w' a b n r ∧ w.heap.size ≤ b ∧ Below w.heap.size w w'

theorem readE_no {p : Int} {bs : List Int} {w w' : World} (h : readOk p bs = false) (hb : Below w.heap.size w w') : ReadE (readOk p bs) (readR p bs) w (.returned (.tuple #[.slice none 0 0, .bool false])) w' := by
  refine ⟨none, w.heap.size, 0, by rw [h], ⟨?_, .inl rfl⟩, Nat.le_refl _, hb⟩
  unfold readR; rw [h]; rfl

theorem readE_yes {p : Nat} {bs m : List Int} {w w' : World} (h : readOk (p : Int) bs = true) (hm : m = (words bs).map readW) (hl : m.length = p) (hh : w'.heap[w.heap.size]? = some (.cells (cellsOf m) 3 (0, 0))) (hb : Below w.heap.size w w') :
    ReadE (readOk (p : Int) bs) (readR (p : Int) bs) w (.returned (.tuple #[.slice (some ⟨w.heap.size, 0, none⟩) p p, .bool true])) w' := by
  have hr : readR (p : Int) bs = m := by unfold readR; rw [h, hm]; rfl
  refine ⟨_, w.heap.size, p, by rw [h], ⟨by rw [hr, hl], .inr ⟨rfl, by rw [hr]; exact hh⟩⟩, Nat.le_refl _, hb⟩

theorem Canon.nought0 {c : List Int} (h : Canon 0 c) : Canon 1 (c ++ [48]) := by
  rcases h with ⟨_, rfl⟩ | ⟨h0, _⟩ | ⟨h0, _⟩
  · exact Canon.nought
  · omega
  · omega

theorem heap_set (wr : World) (q B a : Nat) (m : List Int) (v : Int) (h : wr.heap[B]? = some (.cells (cellsOf m) 3 (0, 0))) : ((wr.drewN q).setCell ⟨B, a, none⟩ (.int .i64 v)).heap[B]? = some (.cells (cellsOf (m.set a v)) 3 (0, 0)) := by
  have := heap_setCell_same (wr.drewN q) B a _ _ (.int .i64 v) h
  rw [cellsOf_set] at this
  exact this

theorem _root_.Go.RowKit.Below.drewN {B : Nat} {a w : World} (h : Below B a w) (q : Nat) : Below B a (w.drewN q) := ⟨h.os, h.tape, h.output, h.size, h.block⟩

theorem made_zero (p : Nat) : madeCells #[.int .i64 0] p = cellsOf (List.replicate p 0) := by
  apply Array.ext_getElem?
  intro i
  by_cases h : i < p
  · rw [cellsOf_at _ _ (by simpa using h)]
    simp [madeCells, h, Nat.mod_one]
  · rw [Array.getElem?_eq_none (by rw [size_madeCells]; omega), Array.getElem?_eq_none (by simp [cellsOf]; omega)]

set_option maxHeartbeats 4000000 in
theorem readI_run (p : Nat) (s : ByteArray) (w : World) (ht : Tab 0 w) (hp : inB (p : Int) 1 16 = true) (hp16 : 1 ≤ p ∧ p ≤ 16) (hs : s.size ≤ 100) :
    Calls Tryd.prog 10 #[.int .i64 (p : Int), .string s] w fun e w' => ReadE (readOk (p : Int) (bytesOf s)) (readR (p : Int) (bytesOf s)) w e w' := by
  have hmk := run_make_row' (P := Tryd.prog) 24 3 (.int .i64 0) 8 Tryd.underlying24 Tryd.info3 rfl .i64 .i64 p (by omega) (by omega)
  have hg := hide (show (0 : Nat) < w.heap.size by have := block_lt_of_cell ht.1; simpa using this)
  have HT := hide ht
  have HP := hide hp
  clear ht
  have hs100 : ¬ (100 : Int) < (s.size : Int) := by omega
  go_enter Tryd.func10, Tryd.ntmps10
  go_wp2_with (go_at_call 23; refine (goodPlaces_any _ _).mono ?_; rintro e w' ⟨rfl, rfl⟩)
  clear hmk hs100 hp
  go_loopw [7, 8, 22] (fun ta tr i wr => ∃ (k a r : Nat) (m : List Int), k ≤ s.size ∧ i = .int .i64 k ∧ ta = .int .i64 a ∧ tr = .int .i64 r ∧ Hid (Mach (bytesOf s) p k a r m) ∧ Hid (wr.heap[w'.heap.size]? = some (.cells (cellsOf m) 3 (0, 0))) ∧ Hid (Below w'.heap.size w' wr)) (fun _ _ i _ => s.size - (intOf i).toNat)
  case atStart => exact ⟨0, 0, 0, List.replicate p 0, Nat.zero_le _, rfl, rfl, rfl, Mach.start _ p (by omega) _ (by simp) (fun j => by simp [List.getD_eq_getElem?_getD, List.getElem?_replicate]; split <;> rfl), by rw [made_zero]; exact heap_alloc_new _ _, (Below.refl _ _).alloc (Nat.le_refl _) _⟩
  case round =>
    obtain ⟨k, a, r, m, hk, rfl, rfl, rfl, HM, HH, HB⟩ := hrel
    have hap := HM.out.lt
    have hml := HM.out.len
    by_cases hlt : k < s.size
    · have hki : (k : Int) < (s.size : Int) := by omega
      have H1 := bytesOf_at s k hlt
      obtain ⟨x, hx⟩ : ∃ x : Int, ((s[k]'hlt).toNat : Int) = x := ⟨_, rfl⟩
      rw [hx] at H1
      have hx0 : 0 ≤ x ∧ x ≤ 255 := by have := (s[k]'hlt).toNat_lt; omega
      have hT := HT.out.below HB.out
      obtain ⟨t0, t1, t2, t3, t4, t5, t6, t7, t8, t9, t10, t11⟩ := hT
      have hcv := HM.out.cell
      have hv := HM.out.canon.val
      obtain ⟨v, hvq⟩ : ∃ v, Hid (valOf (wordsSt ((bytesOf s).take k)).2 = v) := ⟨_, rfl⟩
      rw [hvq.out] at hcv hv
      have ca : wr.cell? ⟨w'.heap.size, a, none⟩ = some (.int .i64 v) := by
        rw [cell_of_row wr _ a _ _ _ HH.out, cellsOf_at m a (by omega), hcv]
      have cf := frozen_of_row wr w'.heap.size a _ _ HH.out
      clear hcv
      have hr : r = 0 ∨ r = 1 ∨ r = 2 := by
        rcases HM.out.canon with ⟨h, _⟩ | ⟨h, _⟩ | ⟨h, _⟩ <;> omega
      rcases hr with rfl | rfl | rfl
      · by_cases h48 : x = 48
        · subst h48
          have HK := hide (kind_any 48)
          rw [kind0] at HK
          clear t1 t2 t3 t4 t5 t6 t7 t8 t9 t10 t11
          have hv0 : v ≤ 0 := by
            rcases HM.out.canon with ⟨_, hc⟩ | ⟨h, _⟩ | ⟨h, _⟩
            · rw [hc] at hvq; have := hvq.out; simp [valOf] at this; omega
            · omega
            · omega
          by_cases hbig : 50 < v * 10
          · exfalso; omega
          · have HN := hide (Mach.digit (m' := m.set a (v * 10)) H1 ⟨by omega, by omega⟩ HM.out (r' := 1) (Canon.nought0 HM.out.canon) (by simp [hml]) (by rw [hvq.out, List.getD_eq_getElem?_getD, List.getElem?_set_self (by omega)]; simp only [Option.getD_some]; omega) (fun j hj => by rw [List.getD_eq_getElem?_getD, List.getElem?_set_ne (by omega), List.getD_eq_getElem?_getD]))
            have HS := hide (fun q => heap_set wr q w'.heap.size a m (v * 10) HH.out)
            have HBs := hide (fun q => (HB.out.drewN q).setCell (p := ⟨w'.heap.size, a, none⟩) (Nat.le_refl _) (.int .i64 (v * 10)))
            clear HM HH HB
            go_wp2
            go_quiet ((go_at_call 24; exact Calls.quiet_of_same (HK.out _)))
            go_wp2
            go_region
            all_goals go_wp2
            all_goals
              go_roundw
              case rel => exact ⟨k + 1, a, 1, _, by omega, by go_num, rfl, rfl, HN, HS.out _, HBs.out _⟩
              case measure => simp [intOf]; omega
        · by_cases hd : 49 ≤ x ∧ x ≤ 57
          · have HK := hide (kind_any x)
            rw [kind1 hd] at HK
            clear t0 t2 t3 t4 t5 t6 t7 t8 t9 t10 t11
            by_cases hbig : 50 < v * 10 + (x - 48)
            · have HF := hide (Mach.tooBig H1 ⟨by omega, by omega⟩ HM.out (by rw [hvq.out]; omega))
              have HBs := hide (fun q => (HB.out.drewN q).setCell (p := ⟨w'.heap.size, a, none⟩) (Nat.le_refl _) (.int .i64 (v * 10 + (x - 48))))
              clear HM
              go_wp2
              go_quiet ((go_at_call 24; exact Calls.quiet_of_same (HK.out _)))
              go_wp2
              go_region
              all_goals go_wp2
              all_goals go_ret2
              all_goals exact readE_no HF.out (HBs.out _)
            · have HN := hide (Mach.digit (m' := m.set a (v * 10 + (x - 48))) H1 ⟨by omega, by omega⟩ HM.out (r' := 2) (HM.out.canon.dig (by omega) ⟨by omega, by omega⟩ (fun e => by omega) (by rw [hvq.out]; omega)) (by simp [hml]) (by rw [hvq.out, List.getD_eq_getElem?_getD, List.getElem?_set_self (by omega)]; simp only [Option.getD_some]; omega) (fun j hj => by rw [List.getD_eq_getElem?_getD, List.getElem?_set_ne (by omega), List.getD_eq_getElem?_getD]))
              have HS := hide (fun q => heap_set wr q w'.heap.size a m (v * 10 + (x - 48)) HH.out)
              have HBs := hide (fun q => (HB.out.drewN q).setCell (p := ⟨w'.heap.size, a, none⟩) (Nat.le_refl _) (.int .i64 (v * 10 + (x - 48))))
              clear HM HH HB
              go_wp2
              go_quiet ((go_at_call 24; exact Calls.quiet_of_same (HK.out _)))
              go_wp2
              go_region
              all_goals go_wp2
              all_goals
                go_roundw
                case rel => exact ⟨k + 1, a, 2, _, by omega, by go_num, rfl, rfl, HN, HS.out _, HBs.out _⟩
                case measure => simp [intOf]; omega
          · by_cases h32 : x = 32
            · subst h32
              have HK := hide (kind_any 32)
              rw [kind2] at HK
              clear t0 t1 t3 t4 t5 t6 t7 t8 t9 t10 t11
              have HF := hide (Mach.blankAhead H1 HM.out)
              clear HM
              go_wp2
              go_quiet ((go_at_call 24; exact Calls.quiet_of_same (HK.out _)))
              go_wp2
              go_ret2
              exact readE_no HF.out (HB.out.drewN _)
            · have HK := hide (kind_any x)
              rw [kind3 h48 hd h32] at HK
              clear t0 t1 t2 t4 t5 t6 t7 t8 t9 t10 t11
              have HF := hide (Mach.other H1 h32 (by simp [digB]; omega) HM.out)
              clear HM
              go_wp2
              go_quiet ((go_at_call 24; exact Calls.quiet_of_same (HK.out _)))
              go_wp2
              go_ret2
              exact readE_no HF.out (HB.out.drewN _)
      · by_cases h48 : x = 48
        · subst h48
          have HK := hide (kind_any 48)
          rw [kind0] at HK
          clear t0 t1 t2 t3 t5 t6 t7 t8 t9 t10 t11
          have HF := hide (Mach.twoNoughts H1 (by omega) HM.out)
          clear HM
          go_wp2
          go_quiet ((go_at_call 24; exact Calls.quiet_of_same (HK.out _)))
          go_wp2
          go_ret2
          exact readE_no HF.out (HB.out.drewN _)
        · by_cases hd : 49 ≤ x ∧ x ≤ 57
          · have HK := hide (kind_any x)
            rw [kind1 hd] at HK
            clear t0 t1 t2 t3 t4 t6 t7 t8 t9 t10 t11
            have HF := hide (Mach.twoNoughts H1 (by omega) HM.out)
            clear HM
            go_wp2
            go_quiet ((go_at_call 24; exact Calls.quiet_of_same (HK.out _)))
            go_wp2
            go_ret2
            exact readE_no HF.out (HB.out.drewN _)
          · by_cases h32 : x = 32
            · subst h32
              have HK := hide (kind_any 32)
              rw [kind2] at HK
              clear t0 t1 t2 t3 t4 t5 t7 t8 t9 t10 t11
              by_cases hap1 : a + 1 = p
              · have HF := hide (Mach.tooMany H1 HM.out hap1)
                have e1 : ((a : Int) + 1 == (p : Int)) = true := by simp; omega
                clear HM hap1
                go_wp2
                go_quiet ((go_at_call 24; exact Calls.quiet_of_same (HK.out _)))
                go_wp2
                go_ret2
                exact readE_no HF.out (HB.out.drewN _)
              · have HN := hide (Mach.blank H1 HM.out (by omega) (by omega))
                have e1 : ((a : Int) + 1 == (p : Int)) = false := by simp; omega
                clear HM hap1
                go_wp2
                go_quiet ((go_at_call 24; exact Calls.quiet_of_same (HK.out _)))
                go_wp2
                go_roundw
                case rel => exact ⟨k + 1, a + 1, 0, m, by omega, by go_num, by go_num, by go_num, HN, HH, HB.out.drewN _⟩
                case measure => simp [intOf]; omega
            · have HK := hide (kind_any x)
              rw [kind3 h48 hd h32] at HK
              clear t0 t1 t2 t3 t4 t5 t6 t8 t9 t10 t11
              have HF := hide (Mach.other H1 h32 (by simp [digB]; omega) HM.out)
              clear HM
              go_wp2
              go_quiet ((go_at_call 24; exact Calls.quiet_of_same (HK.out _)))
              go_wp2
              go_ret2
              exact readE_no HF.out (HB.out.drewN _)
      · by_cases h48 : x = 48
        · subst h48
          have HK := hide (kind_any 48)
          rw [kind0] at HK
          clear t0 t1 t2 t3 t4 t5 t6 t7 t9 t10 t11
          by_cases hbig : 50 < v * 10
          · have HF := hide (Mach.tooBig H1 ⟨by omega, by omega⟩ HM.out (by rw [hvq.out]; omega))
            have HBs := hide (fun q => (HB.out.drewN q).setCell (p := ⟨w'.heap.size, a, none⟩) (Nat.le_refl _) (.int .i64 (v * 10)))
            clear HM
            go_wp2
            go_quiet ((go_at_call 24; exact Calls.quiet_of_same (HK.out _)))
            go_wp2
            go_region
            all_goals go_wp2
            all_goals go_ret2
            all_goals exact readE_no HF.out (HBs.out _)
          · have HN := hide (Mach.digit (m' := m.set a (v * 10)) H1 ⟨by omega, by omega⟩ HM.out (r' := 2) (HM.out.canon.dig (by omega) ⟨by omega, by omega⟩ (fun _ => rfl) (by rw [hvq.out]; omega)) (by simp [hml]) (by rw [hvq.out, List.getD_eq_getElem?_getD, List.getElem?_set_self (by omega)]; simp only [Option.getD_some]; omega) (fun j hj => by rw [List.getD_eq_getElem?_getD, List.getElem?_set_ne (by omega), List.getD_eq_getElem?_getD]))
            have HS := hide (fun q => heap_set wr q w'.heap.size a m (v * 10) HH.out)
            have HBs := hide (fun q => (HB.out.drewN q).setCell (p := ⟨w'.heap.size, a, none⟩) (Nat.le_refl _) (.int .i64 (v * 10)))
            clear HM HH HB
            go_wp2
            go_quiet ((go_at_call 24; exact Calls.quiet_of_same (HK.out _)))
            go_wp2
            go_region
            all_goals go_wp2
            all_goals
              go_roundw
              case rel => exact ⟨k + 1, a, 2, _, by omega, by go_num, rfl, rfl, HN, HS.out _, HBs.out _⟩
              case measure => simp [intOf]; omega
        · by_cases hd : 49 ≤ x ∧ x ≤ 57
          · have HK := hide (kind_any x)
            rw [kind1 hd] at HK
            clear t0 t1 t2 t3 t4 t5 t6 t7 t8 t10 t11
            by_cases hbig : 50 < v * 10 + (x - 48)
            · have HF := hide (Mach.tooBig H1 ⟨by omega, by omega⟩ HM.out (by rw [hvq.out]; omega))
              have HBs := hide (fun q => (HB.out.drewN q).setCell (p := ⟨w'.heap.size, a, none⟩) (Nat.le_refl _) (.int .i64 (v * 10 + (x - 48))))
              clear HM
              go_wp2
              go_quiet ((go_at_call 24; exact Calls.quiet_of_same (HK.out _)))
              go_wp2
              go_region
              all_goals go_wp2
              all_goals go_ret2
              all_goals exact readE_no HF.out (HBs.out _)
            · have HN := hide (Mach.digit (m' := m.set a (v * 10 + (x - 48))) H1 ⟨by omega, by omega⟩ HM.out (r' := 2) (HM.out.canon.dig (by omega) ⟨by omega, by omega⟩ (fun _ => rfl) (by rw [hvq.out]; omega)) (by simp [hml]) (by rw [hvq.out, List.getD_eq_getElem?_getD, List.getElem?_set_self (by omega)]; simp only [Option.getD_some]; omega) (fun j hj => by rw [List.getD_eq_getElem?_getD, List.getElem?_set_ne (by omega), List.getD_eq_getElem?_getD]))
              have HS := hide (fun q => heap_set wr q w'.heap.size a m (v * 10 + (x - 48)) HH.out)
              have HBs := hide (fun q => (HB.out.drewN q).setCell (p := ⟨w'.heap.size, a, none⟩) (Nat.le_refl _) (.int .i64 (v * 10 + (x - 48))))
              clear HM HH HB
              go_wp2
              go_quiet ((go_at_call 24; exact Calls.quiet_of_same (HK.out _)))
              go_wp2
              go_region
              all_goals go_wp2
              all_goals
                go_roundw
                case rel => exact ⟨k + 1, a, 2, _, by omega, by go_num, rfl, rfl, HN, HS.out _, HBs.out _⟩
                case measure => simp [intOf]; omega
          · by_cases h32 : x = 32
            · subst h32
              have HK := hide (kind_any 32)
              rw [kind2] at HK
              clear t0 t1 t2 t3 t4 t5 t6 t7 t8 t9 t11
              by_cases hap1 : a + 1 = p
              · have HF := hide (Mach.tooMany H1 HM.out hap1)
                have e1 : ((a : Int) + 1 == (p : Int)) = true := by simp; omega
                clear HM hap1
                go_wp2
                go_quiet ((go_at_call 24; exact Calls.quiet_of_same (HK.out _)))
                go_wp2
                go_ret2
                exact readE_no HF.out (HB.out.drewN _)
              · have HN := hide (Mach.blank H1 HM.out (by omega) (by omega))
                have e1 : ((a : Int) + 1 == (p : Int)) = false := by simp; omega
                clear HM hap1
                go_wp2
                go_quiet ((go_at_call 24; exact Calls.quiet_of_same (HK.out _)))
                go_wp2
                go_roundw
                case rel => exact ⟨k + 1, a + 1, 0, m, by omega, by go_num, by go_num, by go_num, HN, HH, HB.out.drewN _⟩
                case measure => simp [intOf]; omega
            · have HK := hide (kind_any x)
              rw [kind3 h48 hd h32] at HK
              clear t0 t1 t2 t3 t4 t5 t6 t7 t8 t9 t10
              have HF := hide (Mach.other H1 h32 (by simp [digB]; omega) HM.out)
              clear HM
              go_wp2
              go_quiet ((go_at_call 24; exact Calls.quiet_of_same (HK.out _)))
              go_wp2
              go_ret2
              exact readE_no HF.out (HB.out.drewN _)
    · have hk' : k = s.size := by omega
      have HE := hide (show Mach (bytesOf s) p (bytesOf s).length a r m by rw [bytesOf_len, ← hk']; exact HM.out)
      have hlen : Hid ((bytesOf s).length ≤ 100) := by show _ ≤ _; rw [bytesOf_len]; exact hs
      have hr : r = 0 ∨ r = 1 ∨ r = 2 := by
        rcases HM.out.canon with ⟨h, _⟩ | ⟨h, _⟩ | ⟨h, _⟩ <;> omega
      clear HM
      by_cases h0 : r = 0
      · subst h0
        have HF := hide HE.out.endAhead
        go_wp2
        go_ret2
        exact readE_no HF.out HB.out
      · have er : ((r : Int) == 0) = false := by simp; omega
        by_cases hap1 : a + 1 = p
        · have hG := HE.out.good h0 hap1 HP.out hlen.out
          have HF := hide (readE_yes hG.1 hG.2 HE.out.len HH.out HB.out)
          have e1 : ((a : Int) != (p : Int) - 1) = false := by simp; omega
          clear hG hr h0
          go_wp2
          go_ret2
          exact HF.out
        · have HF := hide (HE.out.short hap1)
          have e1 : ((a : Int) != (p : Int) - 1) = true := by simp; omega
          clear hr h0
          go_wp2
          go_ret2
          exact readE_no HF.out HB.out
end Go.Proofs.YtkpmpnbeedapgaaDoor
