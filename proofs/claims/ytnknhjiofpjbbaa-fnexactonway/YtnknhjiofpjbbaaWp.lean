/- OnWay of the program. -/
import Derived.Test.YtnknhjiofpjbbaaWg
import Derived.Test.YtnknhjiofpjbbaaWr
import Derived.Test.YtnknhjiofpjbbaaNl
namespace Go.Proofs.Ytnknhjiofpjbbaa
open Go.RowKit
set_option maxRecDepth 10000

set_option maxHeartbeats 1000000 in
theorem numsLead_any (q F K : Int) (ar : Option Addr) (mr cr : Nat) (Pd : Nat → Bool) (p : Int) (B n : Nat) (L : List (List Int)) (w : World) (h : PartS w B (3 * n) (3 * n) L) (hn : n ≤ 24)
    (hc : ∀ W k, k < n → Calls Try.prog 47 #[.agg #[.int .i64 q, .slice ar mr cr, .int .u16 F, .int .u16 K], .agg #[.int .u16 (maskL (L.getD (3 * k) []) : Int), .int .u16 (maskL (L.getD (3 * k + 1) []) : Int), .int .u16 (maskL (L.getD (3 * k + 2) []) : Int)]] W fun e W' => e = .returned (.bool (Pd k)) ∧ Below W.heap.size W W') :
    Calls Try.prog 46 #[.agg #[.int .i64 p, .slice (some ⟨B, 0, none⟩) n n], .func (.func 47) #[.agg #[.int .i64 q, .slice ar mr cr, .int .u16 F, .int .u16 K]] #[]] w fun e w' => Nums2End Pd n w e w' := by
  have hAl := below_al w (.cells #[.int .i64 p, .slice (some ⟨B, 0, none⟩) n n] 60)
  have HC := hide hc
  have HP := hide h
  have HB0 := hide hAl
  obtain ⟨i0, hi, hz0, hz1, hz2⟩ := info_split2 Try.info3
  clear hc h hAl
  go_enter Try.func46, Try.ntmps46
  go_wp2_with fail
  obtain ⟨V, hV⟩ : ∃ V, Hid (w.alloc (.cells #[.int .i64 p, .slice (some ⟨B, 0, none⟩) n n] 60) = V) := ⟨_, rfl⟩
  rw [hV.out] at HB0 ⊢
  clear hV
  go_loopw [5, 11] (fun o i wr => ∃ k m : Nat, k ≤ n ∧ i = .int .i64 k ∧ Hid (m ≤ k) ∧ Hid (wr.ownsRow w.heap.size 3 1 o m ((nums2 Pd k).map (Value.int .i64))) ∧ Hid (Below w.heap.size w wr)) (fun _ i _ => n - (intOf i).toNat)
  case atStart => exact ⟨0, 0, Nat.zero_le _, rfl, Nat.le_refl _, World.ownsRow_nil _ _ _ _, HB0⟩
  case round =>
    obtain ⟨k, m, hk, rfl, hmk, hown, hbw⟩ := hrel
    by_cases hlt : k < n
    rotate_left
    · have hk' : k = n := by omega
      subst hk'
      go_wp2_with fail
      go_ret
      exact ⟨_, m, rfl, hown.out, hbw.out⟩
    obtain ⟨hc0, hc1, hc2⟩ := (HP.out.grow hbw.out).atW hlt
    have hA1 := fun C => below_al wr (.cells C 92)
    have HH := hide (fun W => HC.out W k hlt)
    have HB1 := hide (fun C => hbw.out.trans ((hA1 C).mono hbw.out.size))
    have HO1 := hide (fun C => hown.out.alloc (.cells C 92))
    obtain ⟨s0, hs0⟩ : ∃ s, Hid (maskL (L.getD (3 * k) []) = s) := ⟨_, rfl⟩
    obtain ⟨s1, hs1⟩ : ∃ s, Hid (maskL (L.getD (3 * k + 1) []) = s) := ⟨_, rfl⟩
    obtain ⟨s2, hs2⟩ : ∃ s, Hid (maskL (L.getD (3 * k + 2) []) = s) := ⟨_, rfl⟩
    rw [hs0.out] at hc0 HH
    rw [hs1.out] at hc1 HH
    rw [hs2.out] at hc2 HH
    clear hown hA1
    by_cases hh : Pd k = true
    rotate_left
    · have hh' : Pd k = false := by simpa using hh
      have HN := hide (nums2_no hh')
      rw [hh'] at HH
      clear hh hh'
      go_wp2_with fail
      refine (HH.out _).mono ?_
      rintro e w' ⟨rfl, hb⟩
      have HB2 := hide ((HB1.out _).trans (hb.mono (HB1.out _).size))
      have HO2 := hide (own_grow2 (HO1.out _) hb)
      clear hb HH HB1 HO1 hc0 hc1 hc2
      go_wp2_with fail
      go_roundw
      case rel => exact ⟨k + 1, m, by omega, by go_num, Nat.le_succ_of_le hmk.out, by rw [HN.out]; exact HO2, HB2⟩
      case measure => simp [intOf]; omega
    have HN := hide (nums2_yes hh)
    rw [hh] at HH
    clear hh
    go_wp2_with fail
    refine (HH.out _).mono ?_
    rintro e W1 ⟨rfl, hb⟩
    have HB1 := hide ((HB1.out _).trans (hb.mono (HB1.out _).size))
    have HO1 := hide (own_grow2 (HO1.out _) hb)
    have hA2 := below_al W1 (.cells #[.int .i64 (k : Int)] 3)
    have HO2 := hide (HO1.out.alloc (.cells #[.int .i64 (k : Int)] 3))
    have HB2 := hide (HB1.out.trans (hA2.mono HB1.out.size))
    have HCE : Hid (∀ j u, ([.int .i64 (k : Int)] : List Value)[j]? = some u → (W1.alloc (.cells #[.int .i64 (k : Int)] 3)).cell? ((⟨W1.heap.size, 0, none⟩ : Addr).add j) = some u) := one_cell2 W1 _
    have H1c : Hid (∀ u ∈ ([.int .i64 (k : Int)] : List Value), u.oneCell' = true) := fun u hu => by simp at hu; subst hu; rfl
    have HX := hide (show m + 1 ≤ maxLen by have := hmk.out; unfold maxLen; omega)
    have HY := hide (show (m + 1) * 8 ≤ 140737488355328 by have := hmk.out; omega)
    have HZ := hide HB2.out.size
    clear hA2 hc0 hc1 hc2 HH hb
    go_wp2_with (refine wpList_append_own _ rfl (.tmp 19) (.tmp 21) 38 rfl w.heap.size 3 i0 (.int .i64 0) 1 8 Try.underlying38 hi hz0 hz1 hz2 rfl (by decide) u5 m _ rfl HO2.out ⟨W1.heap.size, 0, none⟩ 1 1 [.int .i64 (k : Int)] rfl rfl HCE.out H1c.out HX.out HY.out HZ.out ?_; intro v' W' r1 r2 r3)
    have HR1 : Hid (W'.ownsRow w.heap.size 3 1 v' (m + 1) ((nums2 Pd (k + 1)).map (Value.int .i64))) := by
      show World.ownsRow _ _ _ _ _ _ _
      rw [HN.out, List.map_append]; exact r1
    have HB3 := hide (own_below2 HO2.out r2 HB2.out HB2.out.size (Nat.le_refl _))
    clear r1 r2 r3
    go_wp2_with fail
    go_roundw
    case rel => exact ⟨k + 1, m + 1, by omega, by go_num, Nat.succ_le_succ hmk.out, HR1, HB3⟩
    case measure => simp [intOf]; omega

/-- How the program's OnWay ends. -/
def OwEndI (g : Bool) (xs ys : List Int) (w : World) (e : Ending) (w' : World) : Prop :=
  ∃ a1 b1 n1 c1 a2 b2 n2 c2, e = .returned (.tuple #[.slice a1 n1 c1, .slice a2 n2 c2, .bool g]) ∧ Ob w' a1 b1 n1 xs ∧ Ob w' a2 b2 n2 ys ∧ w.heap.size ≤ b1 ∧ b1 < b2 ∧ Below w.heap.size w w'

theorem Ob.low {w : World} {a : Option Addr} {b n lo : Nat} {xs : List Int} (h : Ob w a b n xs) (hb : lo ≤ b) (hl : lo < w.heap.size) : ∃ b', lo ≤ b' ∧ b' < w.heap.size ∧ Ob w a b' n xs := by
  rcases h.2 with h0 | ⟨e, cur, h1, h2, h3⟩
  · exact ⟨lo, Nat.le_refl _, hl, h.1, .inl h0⟩
  · exact ⟨b, hb, (Array.getElem?_eq_some_iff.mp h1).1, h⟩

theorem plL_eq {p : Nat} {n : Nat} {L : List (List Int)} {s t : Int} (h : wayOk (p : Int) n L s t = true) (hp : p ≤ 16) : nums2 (fthM n L s &&& bckM n L t).testBit 16 = nums2 (plB n L s t) p := by
  have e : ∀ i, (fthM n L s &&& bckM n L t).testBit i = plB n L s t i := pl_bit h
  have e2 : (fthM n L s &&& bckM n L t).testBit = plB n L s t := funext e
  rw [e2]
  have key : ∀ m, p ≤ m → nums2 (plB n L s t) m = nums2 (plB n L s t) p := by
    intro m hm
    induction m with
    | zero => rw [show p = 0 by omega]
    | succ m ih =>
      by_cases hpm : p = m + 1
      · rw [hpm]
      · rw [nums2_no]
        · exact ih (by omega)
        · have : ¬ plB n L s t m = true := fun q => by have := pl_lt h q; omega
          simpa using this
  exact key 16 hp

theorem nums2_congr {f g : Nat → Bool} {n : Nat} (h : ∀ k, k < n → f k = g k) : nums2 f n = nums2 g n := by
  unfold nums2
  congr 1
  apply List.filter_congr
  intro i hi
  exact h i (by simpa using hi)

set_option maxHeartbeats 4000000 in
theorem onWayI_any (p s t : Int) (a : Option Addr) (n c : Nat) (L : List (List Int)) (w : World) (h : Lists w a (3 * n) L) (hs : sizeN n L ≤ 1048576) :
    Calls Try.prog 17 #[.agg #[.int .i64 p, .slice a n c], .int .i64 s, .int .i64 t] w fun e w' => OwEndI (wayOk p n L s t) (wayP p n L s t) (wayT p n L s t) w e w' := by
  have HA := hide (below_al w (.cells #[.int .i64 p, .slice a n c] 31))
  have HF := hide (waysOf_any p s t a n c L _ (h.below HA.out) hs)
  clear h
  go_enter Try.func17, Try.ntmps17
  go_wp2_with fail
  refine HF.out.mono ?_
  rintro e w1 ⟨p', a', m, c', F, K, rfl, hx, hb⟩
  have hA2 := below_al w1 (.cells #[.int .i64 p', .slice a' m c', .int .u16 (F : Int), .int .u16 (K : Int)] 76)
  have HB := hide ((HA.out.trans (hb.mono HA.out.size)).trans (hA2.mono (HA.out.trans (hb.mono HA.out.size)).size))
  have HW1 := hide (show w.heap.size + 1 ≤ w1.heap.size by have := hb.size; simpa using this)
  clear hb HF
  by_cases hg : wayOk p n L s t = true
  rotate_left
  · have hg' : wayOk p n L s t = false := by simpa using hg
    have HN : Hid (OwEndI (wayOk p n L s t) (wayP p n L s t) (wayT p n L s t) w (.returned (.tuple #[.slice none 0 0, .slice none 0 0, .bool false])) (w1.alloc (.cells #[.int .i64 p', .slice a' m c', .int .u16 (F : Int), .int .u16 (K : Int)] 76))) :=
      ⟨none, w.heap.size, 0, 0, none, w.heap.size + 1, 0, 0, by rw [hg'], ⟨by unfold wayP; rw [hg']; rfl, .inl rfl⟩, ⟨by unfold wayT; rw [hg']; rfl, .inl rfl⟩, Nat.le_refl _, by omega, HB.out⟩
    rw [hg']
    clear hx hg hg' hA2
    go_wp2_with fail
    go_ret3
    exact HN.out
  obtain ⟨e1, e2, e3, e4, e5, B, rfl, hBs, hps⟩ := hx.out hg
  obtain ⟨hgn, hsr, htr⟩ := wayOk_parts hg
  obtain ⟨⟨hq1, hq2⟩, hn24, _⟩ := netOk_parts hgn
  subst e1 e2 e3
  obtain ⟨P, rfl⟩ : ∃ P : Nat, p' = (P : Int) := ⟨p'.toNat, by omega⟩
  have HG := hide hg
  rw [hg]
  have HF := hide (fthM_lt c' L s)
  have HK := hide (bckM_lt c' L t)
  have HPL := hide (plL_eq hg (by omega))
  have HTR := hide (nums2_congr (fun k hk => lead_tr hg hk))
  rw [← e4] at HF HPL HTR
  rw [← e5] at HK HPL HTR
  have HX := hide (heap_alloc_new w1 (.cells #[.int .i64 (P : Int), .slice (some ⟨B, 0, none⟩) c' c', .int .u16 (F : Int), .int .u16 (K : Int)] 76))
  have HPS := hide (hps.grow hA2)
  have HAP := hide (fun W => wplaces_any (P : Int) (some ⟨B, 0, none⟩) c' c' F K W HF.out HK.out)
  have HAL := hide (fun W => setList_any (F &&& K) W (Nat.lt_of_le_of_lt Nat.and_le_left HF.out))
  have HAN := hide (fun W (hW : PartS W B (3 * c') (3 * c') L) => numsLead_any (P : Int) (F : Int) (K : Int) (some ⟨B, 0, none⟩) c' c' _ (P : Int) B c' L W hW hn24 (fun W' k hk => leads_any (P : Int) (some ⟨B, 0, none⟩) c' c' F K _ _ _ W' (maskL_lt _ fun x hx => by have := (netOk_mem hgn hk).1 x hx; omega) (maskL_lt _ fun x hx => by have := (netOk_mem hgn hk).2.1 x hx; omega) HF.out HK.out))
  obtain ⟨V, hV⟩ : ∃ V, Hid (w1.alloc (.cells #[.int .i64 (P : Int), .slice (some ⟨B, 0, none⟩) c' c', .int .u16 (F : Int), .int .u16 (K : Int)] 76) = V) := ⟨_, rfl⟩
  have HZ : Hid (w.heap.size < V.heap.size) := by
    show _ < _
    have h1 := HW1.out; rw [← hV.out]; simp; omega
  have HE4 := hide e4
  have HE5 := hide e5
  clear hx hps hA2 hg e4 e5 hBs
  go_wp2_with fail
  rw [hV.out] at HB HX HPS ⊢
  obtain ⟨X, hX⟩ : ∃ X, Hid (w1.heap.size = X) := ⟨_, rfl⟩
  rw [hX.out] at HX ⊢
  clear hV hX
  refine wp_region_held_drew (S := fun W => W.cell? ⟨X, 0, none⟩ = some (.int .i64 (P : Int)) ∧ W.cell? ⟨X, 1, none⟩ = some (.slice (some ⟨B, 0, none⟩) c' c') ∧ W.cell? ⟨X, 2, none⟩ = some (.int .u16 (F : Int)) ∧ W.cell? ⟨X, 3, none⟩ = some (.int .u16 (K : Int))) (by kernel_rfl) ?_ (fun hHeld => ?_)
  · exact (cells4 (keep HX.out (Below.refl _ V).drew)).1
  refine take_yes (i := 0) (some 20) (.agg #[.int .i64 (P : Int), .slice (some ⟨B, 0, none⟩) c' c', .int .u16 (F : Int), .int .u16 (K : Int)]) rfl rfl (by kernel_rfl) (by kernel_rfl) (by kernel_rfl) (fun _ _ _ h => h) (by rfl) ?_ (by assumption) ?_
  · intro W hSw
    obtain ⟨hz0, hz1, hz2, hz3⟩ := hSw
    go_simp
  simp only [Act.put, List.setIfInBounds_toArray, List.set_cons_zero, List.set_cons_succ]
  refine take_yes (i := 3) (some 23) (.pointer (some ⟨X, 0, none⟩)) rfl rfl (by kernel_rfl) (by kernel_rfl) (by kernel_rfl) (fun _ _ _ h => h) (by rfl) ?_ (by assumption) ?_
  · intro W hSw
    obtain ⟨hz0, hz1, hz2, hz3⟩ := hSw
    go_simp
  simp only [Act.put, List.setIfInBounds_toArray, List.set_cons_zero, List.set_cons_succ]
  refine take_yes (i := 4) (some 24) (.agg #[.int .i64 (P : Int), .slice (some ⟨B, 0, none⟩) c' c']) rfl rfl (by kernel_rfl) (by kernel_rfl) (by kernel_rfl) (fun _ _ _ h => h) (by rfl) ?_ (by assumption) ?_
  · intro W hSw
    obtain ⟨hz0, hz1, hz2, hz3⟩ := hSw
    go_simp
  simp only [Act.put, List.setIfInBounds_toArray, List.set_cons_zero, List.set_cons_succ]
  refine take_yes (i := 5) (some 25) (.agg #[.int .i64 (P : Int), .slice (some ⟨B, 0, none⟩) c' c', .int .u16 (F : Int), .int .u16 (K : Int)]) rfl rfl (by kernel_rfl) (by kernel_rfl) (by kernel_rfl) (fun _ _ _ h => h) (by rfl) ?_ (by assumption) ?_
  · intro W hSw
    obtain ⟨hz0, hz1, hz2, hz3⟩ := hSw
    go_simp
  simp only [Act.put, List.setIfInBounds_toArray, List.set_cons_zero, List.set_cons_succ]
  refine take_yes (i := 6) (some 26) (.func (.func 47) #[.agg #[.int .i64 (P : Int), .slice (some ⟨B, 0, none⟩) c' c', .int .u16 (F : Int), .int .u16 (K : Int)]] #[]) rfl rfl (by kernel_rfl) (by kernel_rfl) (by kernel_rfl) (fun _ _ _ h => h) (by rfl) ?_ (by assumption) ?_
  · intro W hSw
    obtain ⟨hz0, hz1, hz2, hz3⟩ := hSw
    go_simp
  simp only [Act.put, List.setIfInBounds_toArray, List.set_cons_zero, List.set_cons_succ]
  refine call_next (i := 1) (some 21) rfl rfl (by kernel_rfl) (by rfl) 44 _ _ _ rfl Try.func44 (by decide) rfl #[.agg #[.int .i64 (P : Int), .slice (some ⟨B, 0, none⟩) c' c', .int .u16 (F : Int), .int .u16 (K : Int)]] (mapw1 _ _ _ rfl) _ (HAP.out _) ?_
  rintro e v1 ⟨rfl, hb1⟩
  refine ⟨_, rfl, ?_, fun hHeld => ?_⟩
  · exact (cells4 (keep (keep HX.out (Below.refl _ V).drew) hb1)).1
  simp only [Act.put, List.setIfInBounds_toArray, List.set_cons_zero, List.set_cons_succ]
  refine call_next (i := 2) (some 22) rfl rfl (by kernel_rfl) (by rfl) 45 _ _ _ rfl Try.func45 (by decide) rfl #[.int .u16 ((F &&& K : Nat) : Int)] (mapw1 _ _ _ rfl) _ (HAL.out _) ?_
  rintro e v2 ⟨a1, b1, m1, c1, rfl, hg1, ho1, hb2⟩
  refine ⟨_, rfl, ?_, fun hHeld => ?_⟩
  · exact (cells4 (keep (keep (keep HX.out (Below.refl _ V).drew) hb1) hb2)).1
  simp only [Act.put, List.setIfInBounds_toArray, List.set_cons_zero, List.set_cons_succ]
  refine call_next (i := 7) (some 27) rfl rfl (by kernel_rfl) (by rfl) 46 _ _ _ rfl Try.func46 (by decide) rfl #[.agg #[.int .i64 (P : Int), .slice (some ⟨B, 0, none⟩) c' c'], .func (.func 47) #[.agg #[.int .i64 (P : Int), .slice (some ⟨B, 0, none⟩) c' c', .int .u16 (F : Int), .int .u16 (K : Int)]] #[]] (mapw2 _ _ _ _ _ rfl rfl) _ (HAN.out _ (((HPS.out.grow (Below.refl _ V).drew).grow hb1).grow hb2)) ?_
  rintro e v3 ⟨y3, m3, rfl, hown3, hb3⟩
  obtain ⟨a2, b2, c2, hv3, hg2, ho2⟩ := own_ob2 hown3
  subst hv3
  refine ⟨_, rfl, ?_, fun hHeld => ?_⟩
  · exact (cells4 (keep (keep (keep (keep HX.out (Below.refl _ V).drew) hb1) hb2) hb3)).1
  simp only [Act.put, List.setIfInBounds_toArray, List.set_cons_zero, List.set_cons_succ]
  refine take_yes (i := 8) (some 6) (.slice a1 m1 c1) rfl rfl (by kernel_rfl) (by kernel_rfl) (by kernel_rfl) (fun _ _ _ h => h) (by rfl) ?_ (by assumption) ?_
  · intro W hSw
    obtain ⟨hz0, hz1, hz2, hz3⟩ := hSw
    go_simp
  simp only [Act.put, List.setIfInBounds_toArray, List.set_cons_zero, List.set_cons_succ]
  refine take_yes (i := 9) (some 7) (.slice a2 m3 c2) rfl rfl (by kernel_rfl) (by kernel_rfl) (by kernel_rfl) (fun _ _ _ h => h) (by rfl) ?_ (by assumption) ?_
  · intro W hSw
    obtain ⟨hz0, hz1, hz2, hz3⟩ := hSw
    go_simp
  simp only [Act.put, List.setIfInBounds_toArray, List.set_cons_zero, List.set_cons_succ]
  refine take_yes (i := 10) (some 8) (.bool true) rfl rfl (by kernel_rfl) (by kernel_rfl) (by kernel_rfl) (fun _ _ _ h => h) (by rfl) ?_ (by assumption) ?_
  · intro W hSw
    obtain ⟨hz0, hz1, hz2, hz3⟩ := hSw
    go_simp
  simp only [Act.put, List.setIfInBounds_toArray, List.set_cons_zero, List.set_cons_succ]
  refine wpAnyH_done (by kernel_rfl) ?_ _
  have hsz : w.heap.size < v2.heap.size := by have h1 := HZ.out; have h2 := hb1.size; have h3 := hb2.size; have h4 : V.drew.heap.size = V.heap.size := rfl; omega
  obtain ⟨b1', hl1, hl2, ho1'⟩ := ho1.low (show w.heap.size ≤ b1 by have h1 := HZ.out; have h2 := hb1.size; have h4 : V.drew.heap.size = V.heap.size := rfl; omega) hsz
  have HE : Hid (OwEndI (wayOk (P : Int) c' L s t) (wayP (P : Int) c' L s t) (wayT (P : Int) c' L s t) w (.returned (.tuple #[.slice a1 m1 c1, .slice a2 m3 c2, .bool true])) v3) := by
    refine ⟨a1, b1', m1, c1, a2, b2, m3, c2, by rw [HG.out], ?_, ?_, hl1, by omega, ?_⟩
    · unfold wayP; rw [HG.out, if_pos rfl, Int.toNat_natCast, ← HPL.out]; exact ho1'.grow hb3
    · unfold wayT; rw [HG.out, if_pos rfl, ← HTR.out]; exact ho2
    · exact HB.out.drew.trans ((hb1.trans ((hb2.trans (hb3.mono hb2.size)).mono hb1.size)).mono HB.out.drew.size)
  clear hb1 hb2 hb3 ho1 ho2 ho1' hown3 hHeld HAP HAL HAN
  go_wp2_with fail
  go_ret3
  exact HE.out
end Go.Proofs.Ytnknhjiofpjbbaa
