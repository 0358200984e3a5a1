/- What DrawMarkText and DrawReadMark answer, and the walk of the law FnMarkText: for every two lists of bytes it returns true, where the table reads as the program lays it, and nothing that was there is written. -/
import Derived.Test.YtkpmpnbeedapgaaDoorSpl
namespace Go.Proofs.YtkpmpnbeedapgaaDoor
open Go.RowKit Go.Lib

set_option maxHeartbeats 400000 in
theorem same_any (a b : Option Addr) (n m ca cb : Nat) (xs ys : List Int) (w : World) (ha : Row w a n xs) (hb : Row w b m ys) (hn : n ≤ 1048576) :
    Calls Tryd.prog 11 #[.slice a n ca, .slice b m cb] w fun e w' => e = .returned (.bool (sameB xs ys)) ∧ ∃ q, w' = w.drewN q := by
  by_cases hnm : n = m
  · subst hnm
    have hne : ((n : Int) != (n : Int)) = false := by simp
    go_enter Tryd.func11, Tryd.ntmps11
    go_wp2
    clear hne
    go_loopw [13] (fun i wr => ∃ k : Nat, k ≤ n ∧ i = .int .i64 k ∧ Upto xs ys k ∧ ∃ q, wr = w.drewN q) (fun i _ => n - (intOf i).toNat)
    case atStart => exact ⟨0, Nat.zero_le _, rfl, rfl, 0, rfl⟩
    case round =>
      obtain ⟨k, hk, rfl, hu, q, rfl⟩ := hrel
      by_cases hlt : k < n
      · obtain ⟨b1, o1, x, rfl, hl1, hc1, H1⟩ := ha.at hlt
        obtain ⟨b2, o2, y, rfl, hl2, hc2, H2⟩ := hb.at hlt
        have hi1 : ((k : Int)) < ((n : Int)) := by omega
        clear ha hb
        by_cases he : x = y
        · subst he
          have HU := hu.step H1 H2
          clear hu H1 H2
          go_wp2
          go_quiet (fail)
          go_wp2
          go_roundw
          case rel => exact ⟨k + 1, by omega, by go_num, HU, _, rfl⟩
          case measure => simp [intOf]; omega
        · have HS := sameB_ne H1 H2 he
          have hd : (x != y) = true := by simp [he]
          clear hu H1 H2 he
          go_wp2
          go_quiet (fail)
          go_wp2
          go_ret
          exact ⟨ret_bool HS.symm, _, drewN_two w _ _⟩
      · have hx := ha.1
        have hy := hb.1
        have HS := hu.done (by omega) (by omega)
        go_wp2
        go_ret
        exact ⟨ret_bool HS.symm, _, rfl⟩
  · have hx := ha.1
    have hy := hb.1
    have HS := sameB_len (show xs.length ≠ ys.length by omega)
    have hne : ((n : Int) != (m : Int)) = true := by simp; omega
    clear ha hb hx hy
    go_enter Tryd.func11, Tryd.ntmps11
    go_wp2
    go_ret
    exact ⟨ret_bool HS.symm, 0, rfl⟩


def BigEnd (n m : Nat) (w : World) (e : Ending) (w' : World) : Prop := ∃ r : Bool, e = .returned (.bool r) ∧ Hid (r = false → n ≤ 1048576 ∧ m ≤ 1048576) ∧ w' = w

set_option maxHeartbeats 400000 in
theorem big_any (a b : Option Addr) (n m ca cb : Nat) (w : World) (hn : n ≤ 9223372036854775807) (hm : m ≤ 9223372036854775807) :
    Calls Tryd.prog 6 #[.slice a n ca, .slice b m cb] w fun e w' => BigEnd n m w e w' := by
  by_cases h1 : 1048576 < n
  · go_enter Tryd.func6, Tryd.ntmps6
    go_wp2
    go_ret
    exact ⟨true, rfl, fun h => by simp at h, rfl⟩
  · have h1' : (n : Int) ≤ 1048576 := by omega
    by_cases h2 : (1048576 : Int) - (n : Int) < (m : Int)
    · go_enter Tryd.func6, Tryd.ntmps6
      go_wp2
      go_ret
      exact ⟨true, rfl, fun h => by simp at h, rfl⟩
    · go_enter Tryd.func6, Tryd.ntmps6
      go_wp2
      go_ret
      exact ⟨_, rfl, fun _ => by omega, rfl⟩


set_option maxHeartbeats 400000 in
theorem drawText_any (ca : Option Addr) (cn cc : Nat) (bs : List Int) (w : World) (hr : RowB w ca cn bs) (hn : cn ≤ 1048576) :
    Calls Tryd.prog 7 #[.slice ca cn cc] w fun e w' => DrawEnd1 w e w' := by
  have HC := hide (draw1_any ca cn cc bs w hr hn)
  clear hr
  go_enter Tryd.func7, Tryd.ntmps7
  go_wp2_with fail
  refine HC.out.mono ?_
  rintro e v2 ⟨p, a, n, c, xs, rfl, h1, h2, h3⟩
  have HE := hide (⟨p, a, n, c, xs, rfl, h1, h2, h3⟩ : DrawEnd1 w _ v2)
  clear h1 h2 h3
  go_wp2
  go_ret2
  exact HE.out

theorem txtB_size (p : Int) (xs : List Int) : (txtB p xs).size ≤ 100 := by
  unfold txtB
  split
  · rename_i h
    have h1 := good_small h
    have h2 := textU_size (natF xs) xs.length
    omega
  · show 0 ≤ 100; omega

theorem readR_len (p : Int) (bs : List Int) : (readR p bs).length ≤ 101 := by
  unfold readR
  split
  · rename_i h
    unfold readOk at h
    rw [Bool.and_eq_true, decide_eq_true_eq] at h
    have := (words_len bs).2
    rw [List.length_map]; omega
  · simp

def DrawEndT (w : World) (e : Ending) (w' : World) : Prop :=
  ∃ (q : Int) (t : ByteArray), e = .returned (.tuple #[.int .i64 q, .string t]) ∧ t.size ≤ 200 ∧ Below w.heap.size w w'

set_option maxHeartbeats 1000000 in
theorem drawRead_any (ca : Option Addr) (cn cc : Nat) (bs : List Int) (w : World) (hr : RowB w ca cn bs) (hn : cn ≤ 1048576) :
    Calls Tryd.prog 12 #[.slice ca cn cc] w fun e w' => DrawEndT w e w' := by
  have HB := hide ((Below.refl w.heap.size w).alloc (Nat.le_refl _) (.cells #[.slice ca cn cc, .int .i64 0, .int .u64 0] 47))
  have HR := hide (hr.below HB.out)
  have hap : Hid (Apart ca cn w.heap.size) := fun h0 y hy => by have := hr.far h0 y hy; omega
  have HC : Hid (Cur (w.alloc (.cells #[.slice ca cn cc, .int .i64 0, .int .u64 0] 47)) w.heap.size ca cn cc 0) := ⟨0, heap_alloc_new _ _⟩
  clear hr
  go_enter Tryd.func12, Tryd.ntmps12
  go_wp2_with fail
  refine (places_draw w.heap.size ca cn cc 0 bs _ HC.out HR.out hap.out (by omega) hn).mono ?_
  rintro e v1 ⟨x, rfl, hx, hcur, hk⟩
  obtain ⟨m, rfl⟩ : ∃ m : Nat, x = (m : Int) := ⟨x.toNat, by omega⟩
  have HR1 := hide (HR.out.kept hk hap.out)
  have HK1 := hide ((Kept.of_below (bc := w.heap.size) HB.out).trans (hk.mono (by simp)))
  have HC1 := hide hcur
  clear HC HR hk hcur HB
  go_wp2_with fail
  refine (mark_draw m w.heap.size ca cn cc (0 + 1) bs _ HC1.out HR1.out hap.out (HR1.out.far) (by omega) hn (by omega)).mono ?_
  rintro e v2 ⟨a, n, c, xs, p', rfl, hn18, hp', hrow, hapa, hcur, hrb, hk⟩
  have HK2 := hide (HK1.out.trans (hk.mono HK1.out.size))
  have HROW := hide hrow
  have S0 := hide (SpSt.mk (w := w) hcur hrb HK2.out)
  clear hrow hapa hcur hrb hk HK1 HC1 HR1 HK2
  go_wp2_with fail
  refine (textS_any (m : Int) a n c xs _ HROW.out (by omega)).mono ?_
  rintro e v3 ⟨rfl, hb⟩
  have S1 := hide (SpSt.mk (w := w) (S0.out.cur.below hb S0.out.cur.lt) (S0.out.bytes.below hb) (S0.out.kept.trans ((Kept.of_below hb).mono S0.out.kept.size)))
  have htz := txtB_size (m : Int) xs
  generalize txtB (m : Int) xs = t at *
  clear hb S0 HROW
  go_wp2_with fail
  refine (one_any 3 w.heap.size ca cn cc p' bs _ S1.out.cur S1.out.bytes (by omega) hn (by omega) (by omega)).mono ?_
  rintro e v4 ⟨b, rfl, hcur, ho⟩
  have S2 := hide (S1.out.only ho hcur hap.out)
  clear hcur ho S1
  cases b
  · have HE := hide (⟨(m : Int), t, rfl, by omega, S2.out.kept.below (Nat.le_refl _)⟩ : DrawEndT w _ v4)
    go_wp2
    go_ret2
    exact HE.out
  · go_wp2_with fail
    refine (spoilt_any t ⟨#[48, 32, 53, 49]⟩ w.heap.size ca cn cc (p' + 1) bs _ S2.out.cur S2.out.bytes hap.out (by omega) hn htz (by show 2 ≤ 4; omega) (by show 4 ≤ 200; omega)).mono ?_
    rintro e v5 ⟨t2, p2, rfl, ht2, hp2, hs⟩
    have HE := hide (⟨(m : Int), t2, rfl, ht2, (S2.out.kept.trans (hs.kept.mono S2.out.kept.size)).below (Nat.le_refl _)⟩ : DrawEndT w _ v5)
    clear hs S2
    go_wp2
    go_ret2
    exact HE.out

set_option maxHeartbeats 2000000 in
theorem markTextLaw (a0 : Option Addr) (len0 cap0 : Nat) (bs : List Int) (a1 : Option Addr) (len1 cap1 : Nat) (cs : List Int) (w : World) (hT : Tab 0 w) (hr : RowB w a0 len0 bs) (hr2 : RowB w a1 len1 cs) (hl0 : len0 ≤ maxLen) (hl1 : len1 ≤ maxLen) :
    Calls Tryd.prog 3 #[.slice a0 len0 cap0, .slice a1 len1 cap1] w fun e w' => e = .returned (.bool true) ∧ Below w.heap.size w w' := by
  unfold maxLen at hl0 hl1
  have HR := hide hr
  have HR2 := hide hr2
  have HT := hide hT
  clear hr hr2 hT
  go_enter Tryd.func3, Tryd.ntmps3
  go_wp2_with fail
  refine (big_any _ _ _ _ _ _ _ hl0 hl1).mono ?_
  rintro e v0 ⟨r, rfl, hbig, rfl⟩
  cases r
  rotate_left
  · go_wp2
    go_ret
    exact ⟨rfl, Below.refl _ _⟩
  have hn0 := (hbig.out rfl).1
  have hn1 := (hbig.out rfl).2
  clear hbig
  go_wp2_with fail
  refine (drawText_any _ _ _ bs _ HR.out hn0).mono ?_
  rintro e v1 ⟨p, a, n, c, xs, rfl, hn, hra, hb⟩
  have HB := hide hb
  have HX := hide hra
  clear hra hb HR
  obtain ⟨t, ht⟩ : ∃ t, Hid (txtB p xs = t) := ⟨_, rfl⟩
  obtain ⟨g, hg⟩ : ∃ g, Hid (goodB p xs = g) := ⟨_, rfl⟩
  have ht2 : (t.toList == t.toList) = true := by simp
  have hg2 : (g != g) = false := by simp
  have hsx := sameB_self xs
  have htz : t.size ≤ 100 := by have := txtB_size p xs; rw [ht.out] at this; exact this
  go_wp2_with fail
  refine (textI_any p a n c xs _ HX.out (by omega)).mono ?_
  rintro e v2 ⟨rfl, hb⟩
  rw [ht.out, hg.out]
  have HB2 := hide (HB.out.trans (hb.mono HB.out.size))
  have HX2 := hide (HX.out.below hb)
  clear HB HX hb
  go_wp2_with fail
  refine (textS_any p a n c xs _ HX2.out (by omega)).mono ?_
  rintro e v3 ⟨rfl, hb⟩
  rw [ht.out, hg.out]
  have HB := hide (HB2.out.trans (hb.mono HB2.out.size))
  have HX := hide (HX2.out.below hb)
  clear HB2 HX2 hb
  cases g
  · clear HX
    go_wp2_with fail
    refine (drawRead_any _ _ _ cs _ (HR2.out.below HB.out) hn1).mono ?_
    rintro e u1 ⟨q, s, rfl, hsz, hb⟩
    have HBa := hide (HB.out.trans (hb.mono HB.out.size))
    clear hb HB
    obtain ⟨ok, hok⟩ : ∃ g, Hid (readOk q (bytesOf s) = g) := ⟨_, rfl⟩
    obtain ⟨l, hl⟩ : ∃ l, Hid (readR q (bytesOf s) = l) := ⟨_, rfl⟩
    have hll : l.length ≤ 101 := by have h1 := readR_len q (bytesOf s); rw [hl.out] at h1; exact h1
    have hok2 : (ok != ok) = false := by simp
    have hsl := sameB_self l
    go_wp2_with fail
    refine (readI_any q s _ (HT.out.below HBa.out) (by omega)).mono ?_
    rw [hok.out, hl.out]
    rintro e u2 ⟨ag, bg, ng, rfl, hblk, _, hb⟩
    have hng : ng ≤ 101 := by have := hblk.1; omega
    have HBb := hide (HBa.out.trans (hb.mono HBa.out.size))
    have HG := hide hblk.row
    clear HBa hblk hb
    go_wp2_with fail
    refine (specRead_any q s _ (by omega)).mono ?_
    rw [hok.out, hl.out]
    rintro e u3 ⟨ak, nk, ck, rfl, hnk, hrow, hb⟩
    have HBc := hide (HBb.out.trans (hb.mono HBb.out.size))
    have HG2 := hide (HG.out.below hb)
    have HK := hide hrow
    clear HBb HG hrow hb
    go_wp2_with fail
    refine (same_any _ _ _ _ _ _ l l _ HG2.out HK.out (by omega)).mono ?_
    rintro e u4 ⟨rfl, q1, rfl⟩
    have HBd := hide (HBc.out.trans ((below_drewN' _ q1).mono HBc.out.size))
    have HG := hide (HG2.out.drewN q1)
    generalize u3.drewN q1 = u4 at *
    clear HBc HG2 HK u3 q1
    cases ok
    · go_wp2
      go_ret
      exact ⟨rfl, HBd.out⟩
    · have FF := text_read hok.out
      rw [hl.out] at FF
      have FF1 := hide FF.1
      have FF2 := hide FF.2
      clear FF
      have hss : (s.toList == s.toList) = true := by simp
      go_wp2_with fail
      refine (textI_any q _ _ _ l _ HG.out (by omega)).mono ?_
      rintro e u5 ⟨rfl, hb⟩
      rw [FF1.out, FF2.out]
      have HBe := hide (HBd.out.trans (hb.mono HBd.out.size))
      clear hb HBd HG
      go_wp2
      go_ret
      exact ⟨rfl, HBe.out⟩
  · have F := read_text hg.out
    rw [ht.out] at F
    have F1 := hide F.1
    have F2 := hide F.2
    clear F
    go_wp2_with fail
    refine (readI_any p t _ (HT.out.below HB.out) (by omega)).mono ?_
    rw [F1.out, F2.out]
    rintro e v4 ⟨ab, bb, nb', rfl, hblk, _, hb⟩
    have hnb : nb' ≤ 18 := by have h1 := hblk.1; have h2 := HX.out.1; omega
    have HB2 := hide (HB.out.trans (hb.mono HB.out.size))
    have HX2 := hide (HX.out.below hb)
    have HK := hide hblk.row
    clear HB HX hblk hb
    go_wp2_with fail
    refine (same_any _ _ _ _ _ _ xs xs _ HK.out HX2.out (by omega)).mono ?_
    rintro e v5 ⟨rfl, q0, rfl⟩
    have HB := hide (HB2.out.trans ((below_drewN' _ q0).mono HB2.out.size))
    generalize v4.drewN q0 = v5 at *
    clear HB2 HX2 HK v4 q0
    go_wp2_with fail
    refine (drawRead_any _ _ _ cs _ (HR2.out.below HB.out) hn1).mono ?_
    rintro e u1 ⟨q, s, rfl, hsz, hb⟩
    have HBa := hide (HB.out.trans (hb.mono HB.out.size))
    clear hb HB
    obtain ⟨ok, hok⟩ : ∃ g, Hid (readOk q (bytesOf s) = g) := ⟨_, rfl⟩
    obtain ⟨l, hl⟩ : ∃ l, Hid (readR q (bytesOf s) = l) := ⟨_, rfl⟩
    have hll : l.length ≤ 101 := by have h1 := readR_len q (bytesOf s); rw [hl.out] at h1; exact h1
    have hok2 : (ok != ok) = false := by simp
    have hsl := sameB_self l
    go_wp2_with fail
    refine (readI_any q s _ (HT.out.below HBa.out) (by omega)).mono ?_
    rw [hok.out, hl.out]
    rintro e u2 ⟨ag, bg, ng, rfl, hblk, _, hb⟩
    have hng : ng ≤ 101 := by have := hblk.1; omega
    have HBb := hide (HBa.out.trans (hb.mono HBa.out.size))
    have HG := hide hblk.row
    clear HBa hblk hb
    go_wp2_with fail
    refine (specRead_any q s _ (by omega)).mono ?_
    rw [hok.out, hl.out]
    rintro e u3 ⟨ak, nk, ck, rfl, hnk, hrow, hb⟩
    have HBc := hide (HBb.out.trans (hb.mono HBb.out.size))
    have HG2 := hide (HG.out.below hb)
    have HK := hide hrow
    clear HBb HG hrow hb
    go_wp2_with fail
    refine (same_any _ _ _ _ _ _ l l _ HG2.out HK.out (by omega)).mono ?_
    rintro e u4 ⟨rfl, q1, rfl⟩
    have HBd := hide (HBc.out.trans ((below_drewN' _ q1).mono HBc.out.size))
    have HG := hide (HG2.out.drewN q1)
    generalize u3.drewN q1 = u4 at *
    clear HBc HG2 HK u3 q1
    cases ok
    · go_wp2
      go_ret
      exact ⟨rfl, HBd.out⟩
    · have FF := text_read hok.out
      rw [hl.out] at FF
      have FF1 := hide FF.1
      have FF2 := hide FF.2
      clear FF
      have hss : (s.toList == s.toList) = true := by simp
      go_wp2_with fail
      refine (textI_any q _ _ _ l _ HG.out (by omega)).mono ?_
      rintro e u5 ⟨rfl, hb⟩
      rw [FF1.out, FF2.out]
      have HBe := hide (HBd.out.trans (hb.mono HBd.out.size))
      clear hb HBd HG
      go_wp2
      go_ret
      exact ⟨rfl, HBe.out⟩
end Go.Proofs.YtkpmpnbeedapgaaDoor
