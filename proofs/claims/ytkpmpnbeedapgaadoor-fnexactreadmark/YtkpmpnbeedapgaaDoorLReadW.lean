/- The walk of the law FnExactReadMark: for every number and every text it returns true, where the table reads as the program lays it, and nothing that was there is written. -/
import Derived.Test.YtkpmpnbeedapgaaDoorRs1
namespace Go.Proofs.YtkpmpnbeedapgaaDoor
open Go.RowKit

theorem Only.to_below {b B : Nat} {a w w' : World} (h : Below B a w) (ho : Only b w w') (hb : B ≤ b) : Below B a w' := h.trans (ho.below hb)

theorem readR_len (p : Int) (bs : List Int) : (readR p bs).length ≤ 101 := by
  unfold readR
  split
  · rename_i h
    unfold readOk at h
    rw [Bool.and_eq_true, decide_eq_true_eq] at h
    have := (words_len bs).2
    rw [List.length_map]; omega
  · simp

theorem Blk.grow {w w' : World} {a : Option Addr} {b n : Nat} {xs : List Int} (h : Blk w a b n xs) (hb : Below w.heap.size w w') : Blk w' a b n xs := by
  refine ⟨h.1, ?_⟩
  rcases h.2 with h0 | ⟨e, hh⟩
  · exact .inl h0
  · exact .inr ⟨e, (hb.block b (Array.getElem?_eq_some_iff.mp hh).1).trans hh⟩

set_option maxHeartbeats 2000000 in
theorem readLaw (p : Int) (s : ByteArray) (w : World) (ht : Tab 0 w) (hs : s.size ≤ maxLen) :
    Calls Tryd.prog 5 #[.int .i64 p, .string s] w fun e w' => e = .returned (.bool true) ∧ Below w.heap.size w w' := by
  unfold maxLen at hs
  by_cases hbig : 1048576 < s.size
  · clear ht
    go_enter Tryd.func5, Tryd.ntmps5
    go_wp2
    go_ret
    exact ⟨rfl, Below.refl _ _⟩
  have hn : s.size ≤ 1048576 := by omega
  have HT := hide ht
  clear ht
  obtain ⟨g, hg⟩ : ∃ g, Hid (readOk p (bytesOf s) = g) := ⟨_, rfl⟩
  obtain ⟨r, hq⟩ : ∃ r, Hid (readR p (bytesOf s) = r) := ⟨_, rfl⟩
  have hrl : r.length ≤ 101 := by have h1 := readR_len p (bytesOf s); rw [hq.out] at h1; exact h1
  have hg2 : (g != g) = false := by simp
  have hsr := sameB_self r
  go_enter Tryd.func5, Tryd.ntmps5
  go_wp2_with fail
  refine (specRead_any p s _ hn).mono ?_
  rw [hg.out, hq.out]
  rintro e u ⟨aw, nw, cw, rfl, hnw, hrw, hb⟩
  have HB := hide hb
  have HRW := hide hrw
  have hwu := hb.size
  clear hb hrw
  go_wp2_with fail
  refine (readI_any p s _ (HT.out.below HB.out) hn).mono ?_
  rw [hg.out, hq.out]
  rintro e v1 ⟨ag, bg, ng, rfl, hblk, hbg, hb⟩
  have hng : ng ≤ 101 := by have := hblk.1; omega
  have HM := hide hb
  have HB1 := hide (HB.out.trans (hb.mono HB.out.size))
  have HG := hide hblk
  clear HB hb hblk
  go_wp2_with fail
  refine (eq_any _ _ _ _ _ _ r r _ HG.out.row (HRW.out.below HM.out) (by omega)).mono ?_
  rintro e v2 ⟨rfl, q, rfl⟩
  have HM2 := hide (HM.out.drewN q)
  have HB2 := hide (HB1.out.drewN q)
  have HG2 := hide (HG.out.grow (below_drewN' v1 q))
  generalize v1.drewN q = v2 at *
  clear HM HB1 HG v1 q
  go_wp2_with fail
  refine (mark_any _ bg _ _ 1 r _ HG2.out (by omega) (by omega)).mono ?_
  rintro e v3 ⟨rfl, hm1, ho1⟩
  have HM := hide (Only.to_below HM2.out ho1 hbg)
  have HB1 := hide (Only.to_below HB2.out ho1 (by omega))
  have HG := hide hm1
  clear HM2 HB2 HG2 hm1 ho1 v2
  have hpos2 : (0 : Int) ≤ ((1 + ng : Nat) : Int) := by omega
  have hne : (((1 + ng : Nat) : Int) != ((1 + ng : Nat) : Int)) = false := by simp
  go_wp2_with fail
  refine (held_any _ _ _ 1 _ HG.out.row (by omega) (by omega)).mono ?_
  rintro e v4 ⟨rfl, rfl⟩
  go_wp2_with fail
  refine (readI_any p s _ (HT.out.below HB1.out) hn).mono ?_
  rw [hg.out, hq.out]
  rintro e v5 ⟨ah, bh, nh, rfl, hblk, hbh, hb⟩
  have hnh : nh ≤ 101 := by have := hblk.1; omega
  have HM2 := hide (HM.out.trans (hb.mono HM.out.size))
  have HB2 := hide (HB1.out.trans (hb.mono HB1.out.size))
  have HG2 := hide (HG.out.grow hb)
  have HH := hide hblk.row
  clear HM HB1 HG hb hblk hbh v4
  go_wp2_with fail
  refine (eq_any _ _ _ _ _ _ r r _ HH.out (HRW.out.below HM2.out) (by omega)).mono ?_
  rintro e v6 ⟨rfl, q, rfl⟩
  have HB1 := hide (HB2.out.drewN q)
  have HG := hide (HG2.out.grow (below_drewN' v5 q))
  generalize v5.drewN q = v6 at *
  clear HM2 HB2 HG2 HH v5 q
  go_wp2_with fail
  refine (held_any _ _ _ 1 _ HG.out.row (by omega) (by omega)).mono ?_
  rintro e v7 ⟨rfl, rfl⟩
  go_wp2
  go_ret
  exact ⟨rfl, HB1.out⟩
end Go.Proofs.YtkpmpnbeedapgaaDoor
