/- What the program's MarkText answers, for every number of places and every list. -/
import Derived.Test.YtkpmpnbeedapgaaDoorMt
namespace Go.Proofs.YtkpmpnbeedapgaaDoor
open Go.RowKit Go.Lib

set_option maxHeartbeats 1000000 in
theorem textI_any (p : Int) (a : Option Addr) (n ca : Nat) (xs : List Int) (w : World) (ha : Row w a n xs) (hn : n ≤ 1048576) :
    Calls Tryd.prog 8 #[.int .i64 p, .slice a n ca] w fun e w' => TextEnd p xs w e w' := by
  have HG := hide (goodI_any p a n ca xs w ha hn)
  by_cases hg : goodB p xs = true
  · have hp := good_small hg
    have hl := ha.1
    have HY := hide (fun w' (hb : Below w.heap.size w w') => textEnd_yes hg (by rw [hl]) hb)
    have HA := hide ha
    have hs := hp.1
    have hn16 : n ≤ 16 := by omega
    have hn1 : 1 ≤ n := by omega
    obtain ⟨i0, hi, hz0, hz1, hz2⟩ := info_parts Tryd.info5
    clear hp hl ha
    rw [hg] at HG
    go_enter Tryd.func8, Tryd.ntmps8
    go_wp2_with (go_at_call 19; refine HG.out.mono ?_; rintro e w1 ⟨rfl, hb1⟩)
    have HB1 := hide hb1
    clear hb1 HG
    go_loopw [6, 15] (fun o i wr => ∃ k : Nat, k ≤ n ∧ i = .int .i64 k ∧ Hid (wr.ownsRow w.heap.size 5 1 o (textU (natF xs) k).size (strCells (textU (natF xs) k))) ∧ Hid (Below w.heap.size w wr)) (fun _ i _ => n - (intOf i).toNat)
    case atStart => exact ⟨0, Nat.zero_le _, rfl, World.ownsRow_nil _ _ _ _, HB1⟩
    case round =>
      obtain ⟨k, hk, rfl, HO, HB⟩ := hrel
      have hsz := HB.out.size
      have hts := textU_size (natF xs) k
      by_cases hlt : k < n
      · obtain ⟨b1, o1, x, rfl, hl1, hc1, H1⟩ := (HA.out.below HB.out).at hlt
        have hki : (k : Int) < (n : Int) := by omega
        have hx := hs k
        rw [List.getD_eq_getElem?_getD, H1.out] at hx
        have hx' : 0 ≤ x ∧ x ≤ 50 := hx
        obtain ⟨m, rfl⟩ : ∃ m : Nat, x = (m : Int) := ⟨x.toNat, by omega⟩
        have hf : natF xs k = m := by unfold natF; rw [List.getD_eq_getElem?_getD, H1.out]; rfl
        have HT := hide (textU_succ (natF xs) k)
        rw [hf] at HT
        have fin : Hid (∀ (v v' : Value) (W W' : World), Below w.heap.size w W → W'.ownsRow w.heap.size 5 1 v' ((headU (natF xs) k).size + (numB m).size) (strCells (headU (natF xs) k) ++ strCells (numB m)) → Below w.heap.size W W' →
            ∃ k1 : Nat, k1 ≤ n ∧ Value.int .i64 ((k : Int) + 1) = .int .i64 k1 ∧ Hid (W'.ownsRow w.heap.size 5 1 v' (textU (natF xs) k1).size (strCells (textU (natF xs) k1))) ∧ Hid (Below w.heap.size w W')) := by
          intro v v' W W' hW h1 h2
          refine ⟨k + 1, by omega, by go_num, ?_, hW.trans h2⟩
          show World.ownsRow _ _ _ _ _ _ _
          rw [HT.out, ByteArray.size_append, strCells_app]
          exact h1
        by_cases hk0 : k = 0
        · have hkp : ¬ (0 : Int) < (k : Int) := by omega
          have e0 : headU (natF xs) k = textU (natF xs) k := by unfold headU; rw [if_pos hk0, hk0]; rfl
          rw [e0] at fin
          have HAP := hide (appI_any w.heap.size u6 (textU (natF xs) k).size m _ wr HO.out hsz (by omega) (by omega))
          clear hx hx' hf e0 hk0
          go_wp2_with (go_at_call 20; refine HAP.out.mono ?_; rintro e w2 ⟨v', rfl, h1, h2⟩; have R := hide (fin.out u6 v' wr w2 HB.out h1 h2); clear h1 h2)
          go_roundw
          case rel => exact R.out
          case measure => simp [intOf]; omega
        · have hkp : (0 : Int) < (k : Int) := by omega
          have e0 : headU (natF xs) k = textU (natF xs) k ++ blankB := by unfold headU; rw [if_neg hk0]
          have S3 := hide (fun v' W' (h1 : W'.ownsRow w.heap.size 5 1 v' ((textU (natF xs) k).size + 1) (strCells (textU (natF xs) k) ++ [.int .u8 32])) (h2 : (wr.alloc (.cells #[.int .u8 32] 5)).grownBy W' u6.ownBlock) =>
            (⟨(by rw [e0, ByteArray.size_append, strCells_app]; exact h1), own_below8 (HO.out.alloc _) h2 (HB.out.alloc hsz _) (by simp; omega)⟩ : W'.ownsRow w.heap.size 5 1 v' (headU (natF xs) k).size (strCells (headU (natF xs) k)) ∧ Below w.heap.size w W'))
          have HOA := hide (HO.out.alloc (.cells #[.int .u8 32] 5))
          clear hx hf e0 hk0 HO
          go_wp2_with (first
            | (at_builtin; refine wpList_append_own _ rfl (.tmp 22) (.tmp 23) 22 rfl w.heap.size 5 i0 (.int .u8 0) 1 1 Tryd.underlying22 hi hz0 hz1 hz2 rfl (by decide) u6 (textU (natF xs) k).size _ rfl HOA.out ⟨wr.heap.size, 0, none⟩ 1 1 [.int .u8 32] rfl rfl (cell_one_new _ _ _) (by intro u hu; simp at hu; subst hu; rfl) (by unfold maxLen; omega) (by omega) (by simp; omega) ?_; intro v2 W2 r1 r2 _; have R2 := hide (S3.out v2 W2 r1 r2); clear r1 r2)
            | (go_at_call 20; refine (appI_any w.heap.size v2 (headU (natF xs) k).size m _ W2 R2.out.1 R2.out.2.size (by omega) (by omega)).mono ?_; rintro e w2 ⟨v', rfl, h1, h2⟩; have R := hide (fin.out v2 v' W2 w2 R2.out.2 h1 h2); clear h1 h2))
          go_roundw
          case rel => exact R.out
          case measure => simp [intOf]; omega
      · have hk' : k = n := by omega
        subst hk'
        have hne : 1 ≤ (textU (natF xs) k).size := by
          obtain ⟨j, rfl⟩ : ∃ j, k = j + 1 := ⟨k - 1, by omega⟩
          exact textU_ne _ j
        have hcv := conv_own HO.out hne
        have HF := hide (HY.out wr HB.out)
        clear hne hts hs
        go_wp2
        go_ret2
        exact HF.out
  · have hg' : goodB p xs = false := by simpa using hg
    have HN := hide (fun w' (hb : Below w.heap.size w w') => textEnd_no hg' hb)
    rw [hg'] at HG
    clear hg ha
    go_enter Tryd.func8, Tryd.ntmps8
    go_wp2_with (go_at_call 19; refine HG.out.mono ?_; rintro e w1 ⟨rfl, hb1⟩)
    go_ret2
    exact HN.out _ hb1

set_option maxHeartbeats 1000000 in
theorem textLaw (p : Int) (a1 : Option Addr) (len1 cap1 : Nat) (xs : List Int) (w : World) (hr : Row w a1 len1 xs) :
    Calls Tryd.prog 4 #[.int .i64 p, .slice a1 len1 cap1] w fun e w' => e = .returned (.bool true) ∧ Below w.heap.size w w' := by
  by_cases hbig : 1048576 < len1
  · go_enter Tryd.func4, Tryd.ntmps4
    go_wp2
    go_ret
    exact ⟨rfl, Below.refl _ _⟩
  have hn : len1 ≤ 1048576 := by omega
  have HL := hide hr.1
  have HR := hide hr
  obtain ⟨t, ht⟩ : ∃ t, Hid (txtB p xs = t) := ⟨_, rfl⟩
  obtain ⟨g, hg⟩ : ∃ g, Hid (goodB p xs = g) := ⟨_, rfl⟩
  have ht2 : (t.toList == t.toList) = true := by simp
  have hg2 : (g != g) = false := by simp
  clear hr
  go_enter Tryd.func4, Tryd.ntmps4
  go_wp2_with fail
  refine (toInt_any _ _ _ xs _ HR.out hn).mono ?_
  rintro e v1 ⟨rfl, rfl⟩
  go_wp2_with fail
  refine (textS_any _ _ _ _ xs _ (row_new w xs len1 _ HL.out rfl) hn).mono ?_
  rintro e v1 ⟨rfl, hb1⟩
  rw [ht.out, hg.out]
  have hb0 : Below w.heap.size w v1 := ((Below.refl _ _).alloc (Nat.le_refl _) _).trans (hb1.mono (by simp))
  have HA := hide (HR.out.below hb0)
  have HB := hide hb0
  clear hb0 hb1
  go_wp2_with fail
  refine (toInt_any _ _ _ xs _ HA.out hn).mono ?_
  rintro e v2 ⟨rfl, rfl⟩
  go_wp2_with fail
  have HX := hide (row_new v1 xs len1 v1.heap.size HL.out rfl)
  refine (textI_any _ _ _ _ xs _ HX.out hn).mono ?_
  rintro e v2 ⟨rfl, hb2⟩
  rw [ht.out, hg.out]
  have hb0 : Below w.heap.size w v2 := (HB.out.alloc HB.out.size _).trans (hb2.mono (by have := HB.out.size; simp; omega))
  have HA2 := hide (HR.out.below hb0)
  have HX2 := hide (HX.out.below hb2)
  have HB2 := hide hb0
  clear hb0 hb2
  go_wp2_with fail
  refine (toInt_any _ _ _ xs _ HA2.out hn).mono ?_
  rintro e v3 ⟨rfl, rfl⟩
  go_wp2_with fail
  refine (eq_any _ _ _ _ _ _ xs xs _ (HX2.out.alloc _) (row_new v2 xs len1 _ HL.out rfl) hn).mono ?_
  rintro e v3 ⟨rfl, q, rfl⟩
  have hs := sameB_self xs
  go_wp2
  go_ret
  exact ⟨rfl, (HB2.out.alloc HB2.out.size _).trans ((below_drewN' _ q).mono (by have := HB2.out.size; simp; omega))⟩
end Go.Proofs.YtkpmpnbeedapgaaDoor
