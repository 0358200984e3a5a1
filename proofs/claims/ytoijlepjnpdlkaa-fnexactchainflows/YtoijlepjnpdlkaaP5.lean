/- Contracts that the proof stands on, one behind the other. -/
import Derived.Test.YtoijlepjnpdlkaaP4
import Derived.WalkMore
import Derived.ScopeJumps
import Derived.Deep.RegionHeld3
import Derived.Deep.MidRow
/- walk of the program: the places that can be come to, by a goto. -/
namespace Go.Proofs.Ytoijlepjnpdlkaa
open Go.RowKit
set_option maxRecDepth 10000

theorem PartS.atW {w : World} {B n k : Nat} {L : List (List Int)} (h : PartS w B (3 * n) (3 * n) L) (hk : k < n) :
    w.cell? ⟨B, k * 3, none⟩ = some (.int .u16 (maskL (L.getD (3 * k) []) : Int)) ∧ w.cell? ⟨B, k * 3 + 1, none⟩ = some (.int .u16 (maskL (L.getD (3 * k + 1) []) : Int)) ∧ w.cell? ⟨B, k * 3 + 2, none⟩ = some (.int .u16 (maskL (L.getD (3 * k + 2) []) : Int)) := by
  obtain ⟨C, h1, h2, h3⟩ := h
  refine ⟨?_, ?_, ?_⟩
  · rw [cell_of_row w B _ C _ _ h1, Nat.mul_comm]; exact h3 _ (by omega)
  · rw [cell_of_row w B _ C _ _ h1, Nat.mul_comm]; exact h3 _ (by omega)
  · rw [cell_of_row w B _ C _ _ h1, Nat.mul_comm]; exact h3 _ (by omega)

theorem ahead_any (s0 s1 s2 : Int) (w : World) :
    Calls Try.prog 51 #[.agg #[.int .u16 s0, .int .u16 s1, .int .u16 s2]] w fun e w' => e = .returned (.int .u16 s0) ∧ Below w.heap.size w w' := by
  go_enter Try.func51, Try.ntmps51
  go_wp2_with fail
  go_ret
  exact ⟨rfl, below_al _ _⟩

theorem behind_any (s0 s1 s2 : Int) (w : World) :
    Calls Try.prog 52 #[.agg #[.int .u16 s0, .int .u16 s1, .int .u16 s2]] w fun e w' => e = .returned (.int .u16 s1) ∧ Below w.heap.size w w' := by
  go_enter Try.func52, Try.ntmps52
  go_wp2_with fail
  go_ret
  exact ⟨rfl, below_al _ _⟩

theorem wp_scope_jumps2 {P : Program} {a : Act} {w : World} {Q : Exit → Act → World → Prop} {c rest : Code} (l : Nat) (J : Act → World → Prop) (μ : Act → World → Nat) (hf : findLabel c l = some (Code.skip.seq rest))
    (first : c.wp P (Exit.jump l J Q) a w)
    (pass : ∀ a w, J a w → rest.wp P (Exit.jump l (fun a' w' => J a' w' ∧ μ a' w' < μ a w) Q) a w) : (Code.scope c).wp P Q a w :=
  wp_scope_jumps l J μ hf first fun a w h => wp_seq (wp_skip (pass a w h))

theorem ret_u16 {a b : Nat} (h : a = b) : Ending.returned (.int .u16 (a : Int)) = .returned (.int .u16 (b : Int)) := by rw [h]

/-- What walk keeps in mind at the label. -/
structure WkInv (w wr : World) (p : Int) (B n m : Nat) (A D : Nat → List Int) (s : Int) : Prop where
  par : wr.heap[w.heap.size]? = some (.cells #[.int .i64 p, .slice (some ⟨B, 0, none⟩) n n] 49 (0, 0))
  bel : Below w.heap.size w wr
  come : Come A D n s m

set_option maxHeartbeats 4000000 in
theorem walkF_any (A D : Nat → List Int) (p s : Int) (B n : Nat) (L : List (List Int)) (w : World) (h : PartS w B (3 * n) (3 * n) L) (hn : n ≤ 24) (hs : 0 ≤ s ∧ s < 16)
    (hA : Small A n) (hD : Small D n) (eA : ∀ k, A k = L.getD (3 * k) []) (eD : ∀ k, D k = L.getD (3 * k + 1) []) :
    Calls Try.prog 50 #[.agg #[.int .i64 p, .slice (some ⟨B, 0, none⟩) n n], .int .i64 s, .func (.func 51) #[] #[], .func (.func 52) #[] #[]] w fun e w' => e = .returned (.int .u16 (rchM A D n s : Int)) ∧ Below w.heap.size w w' := by
  have HP := hide h
  have HA := hide hA
  have HD := hide hD
  have EA := hide eA
  have ED := hide eD
  have hs0 := hs.1
  have hs1 := hs.2
  clear h eA eD hA hD hs
  go_enter Try.func50, Try.ntmps50
  go_wp2_with fail
  refine (fun pass => wp_scope_jumps2 0 (fun a' w' => ∃ (m : Nat) (u5 u6 u7 u10 u11 u12 u13 u14 u15 u16 u17 u18 u19 u20 u21 u22 u23 u24 u25 u26 u27 u28 u29 u30 u31 u32 u33 u34 u35 u36 u37 u38 u39 u40 u41 : Value), a' = { tmps := #[.agg #[.int .i64 p, .slice (some ⟨B, 0, none⟩) n n], .int .i64 s, .func (.func 51) #[] #[], .func (.func 52) #[] #[], .pointer (some ⟨w.heap.size, 0, none⟩), u5, u6, u7, .int .u16 0, .int .u16 (m : Int), u10, u11, u12, u13, u14, u15, u16, u17, u18, u19, u20, u21, u22, u23, u24, u25, u26, u27, u28, u29, u30, u31, u32, u33, u34, u35, u36, u37, u38, u39, u40, u41], defers := [] } ∧ Hid (WkInv w w' p B n m A D s)) (fun a' _ => 65536 - (intOf (a'.tmps.getD 9 undef)).toNat) rfl ?_ pass) ?_
  · have HPAR := hide (heap_alloc_new w (.cells #[.int .i64 p, .slice (some ⟨B, 0, none⟩) n n] 49))
    have HB0 := hide (below_al w (.cells #[.int .i64 p, .slice (some ⟨B, 0, none⟩) n n] 49))
    have HC0 := hide (Come.start (A := A) (B := D) (n := n) ⟨hs0, hs1⟩)
    have HW : Hid (IntKind.u16.wrap (2 ^ s.toNat) = ((2 ^ s.toNat : Nat) : Int)) := by
      show _ = _
      rw [show ((2 : Int) ^ s.toNat) = ((2 ^ s.toNat : Nat) : Int) by simp]
      exact wraps_u16 _ (Int.natCast_nonneg _) (by exact_mod_cast HC0.out.lt)
    go_wp2_with fail
    go_step3
    rename_i K hK
    rw [HW.out]
    refine hK _ _ (Code.wp_mono ?_ (pass _ _ ⟨2 ^ s.toNat, _, _, _, _, _, _, _, _, _, _, _, _, _, _, _, _, _, _, _, _, _, _, _, _, _, _, _, _, _, _, _, _, _, _, _, rfl, ⟨HPAR.out, HB0.out, HC0.out⟩⟩))
    intro e a2 w2 hq
    cases e <;> first | exact hq | exact ⟨hq.1, hq.2.1⟩
  · rintro a' w' ⟨m, u5, u6, u7, u10, u11, u12, u13, u14, u15, u16, u17, u18, u19, u20, u21, u22, u23, u24, u25, u26, u27, u28, u29, u30, u31, u32, u33, u34, u35, u36, u37, u38, u39, u40, u41, rfl, hin⟩
    obtain ⟨hc0, hc1⟩ := cells2 hin.out.par
    have hm := hin.out.come.lt
    go_wp2_with fail
    clear hc0 hc1
    go_loopw [9, 17] (fun c i wr => ∃ k : Nat, k ≤ n ∧ i = .int .i64 k ∧ c = .int .u16 (m : Int) ∧ Hid (∀ j, j < k → Quiet A D j m) ∧ Hid (WkInv w wr p B n m A D s)) (fun _ i _ => n - (intOf i).toNat)
    case atStart => exact ⟨0, Nat.zero_le _, rfl, rfl, fun j hj => absurd hj (by omega), hin⟩
    case round =>
      clear hin
      obtain ⟨k, hk, rfl, rfl, hu, hin⟩ := hrel
      by_cases hlt : k < n
      rotate_left
      · have hk' : k = n := by omega
        subst hk'
        have HR := hide (rchM_eq HD.out ⟨hs0, hs1⟩ (hin.out.come.done HA.out HD.out hu.out))
        clear hm
        go_wp2_with fail
        simp only [Exit.jump]
        go_ret
        exact ⟨ret_u16 HR.out, hin.out.bel⟩
      obtain ⟨hc0, hc1, hc2⟩ := (HP.out.grow hin.out.bel).atW hlt
      have ea := EA.out k
      have ed := ED.out k
      have ha16 : maskL (A k) < 2 ^ 16 := maskL_lt _ fun x hx => (HA.out k hlt x hx).2
      have hd16 : maskL (D k) < 2 ^ 16 := maskL_lt _ fun x hx => (HD.out k hlt x hx).2
      have HQ := hide (fun (h : Quiet A D k m) (j : Nat) (hj : j < k + 1) => (if e : j < k then hu.out j e else (by rw [show j = k by omega]; exact h) : Quiet A D j m))
      have HMO := hide (fun (h : maskL (A k) &&& m ≠ 0) => hin.out.come.more HA.out HD.out hlt h)
      have HOR := hide (or_u16 m (maskL (D k)) hm hd16)
      unfold Quiet at HQ
      rw [ea] at HQ HMO ha16
      rw [ed] at HQ HMO hd16 HOR
      have HA1 := hide (below_al wr (.cells #[.int .u16 (maskL (L.getD (3 * k) []) : Int), .int .u16 (maskL (L.getD (3 * k + 1) []) : Int), .int .u16 (maskL (L.getD (3 * k + 2) []) : Int)] 58))
      have HPAR := hide hin.out.par
      have HB0 := hide hin.out.bel
      have HCO := hide hin.out.come
      clear hin hu ea ed
      generalize maskL (L.getD (3 * k) []) = s0 at *
      generalize maskL (L.getD (3 * k + 1) []) = s1 at *
      generalize maskL (L.getD (3 * k + 2) []) = s2 at *
      go_wp2_with fail
      refine (ahead_any _ _ _ _).mono ?_
      rintro e w1 ⟨rfl, hb⟩
      have HB1 := hide (HA1.out.trans (hb.mono HA1.out.size))
      have hX := keep (heap_alloc_new wr (.cells #[.int .u16 (s0 : Int), .int .u16 (s1 : Int), .int .u16 (s2 : Int)] 58)) hb
      have hx0 := cell_of_row w1 _ 0 _ _ _ hX
      have hx1 := cell_of_row w1 _ 1 _ _ _ hX
      have hx2 := cell_of_row w1 _ 2 _ _ _ hX
      simp at hx0 hx1 hx2
      have HX := hide hX
      clear hb HA1 hX hc0 hc1 hc2
      by_cases hz : s0 &&& m = 0
      · have hcd := meetW_no ha16 hm hz
        have HQ1 := hide (HQ.out (.inl hz))
        have HI : Hid (WkInv w w1 p B n m A D s) := ⟨keep HPAR.out HB1.out, HB0.out.trans (HB1.out.mono HB0.out.size), HCO.out⟩
        clear HQ HMO HOR HPAR HB0 HCO hz HX
        go_wp2_with fail
        go_roundw
        case rel => exact ⟨k + 1, by omega, by go_num, rfl, HQ1, HI⟩
        case measure => simp [intOf]; omega
      have hcd := meetW_yes ha16 hm hz
      have HZ : Hid (s0 &&& m ≠ 0) := hz
      clear hz
      go_wp2_with fail
      refine (behind_any _ _ _ _).mono ?_
      rintro e w2 ⟨rfl, hb⟩
      have HB2 := hide (HB1.out.trans (hb.mono HB1.out.size))
      have hX := keep HX.out hb
      have hx0 := cell_of_row w2 _ 0 _ _ _ hX
      have hx1 := cell_of_row w2 _ 1 _ _ _ hX
      have hx2 := cell_of_row w2 _ 2 _ _ _ hX
      simp at hx0 hx1 hx2
      clear hb hX HX HB1
      by_cases hy : s1 &&& m = s1
      · have hcd2 := lessW_no hy
        have HQ1 := hide (HQ.out (.inr hy))
        have HI : Hid (WkInv w w2 p B n m A D s) := ⟨keep HPAR.out HB2.out, HB0.out.trans (HB2.out.mono HB0.out.size), HCO.out⟩
        clear HQ HMO HOR HPAR HB0 HCO hy
        go_wp2_with fail
        go_roundw
        case rel => exact ⟨k + 1, by omega, by go_num, rfl, HQ1, HI⟩
        case measure => simp [intOf]; omega
      have hcd2 := lessW_yes hd16 hy
      have HMO1 := hide (HMO.out HZ.out)
      have HLE := hide (come_less HMO1.out.lt hy)
      clear hy HMO HQ
      go_wp2_with fail
      refine (behind_any _ _ _ _).mono ?_
      rintro e w3 ⟨rfl, hb⟩
      have HI : Hid (WkInv w w3 p B n (m ||| s1) A D s) := ⟨keep (keep HPAR.out HB2.out) hb, HB0.out.trans ((HB2.out.trans (hb.mono HB2.out.size)).mono HB0.out.size), HMO1.out⟩
      clear hb HB0 HPAR HB2 HCO
      go_wp2_with fail
      go_step3
      rw [HOR.out]
      refine ⟨rfl, ⟨m ||| s1, _, _, _, _, _, _, _, _, _, _, _, _, _, _, _, _, _, _, _, _, _, _, _, _, _, _, _, _, _, _, _, _, _, _, _, rfl, HI⟩, ?_⟩
      have := HLE.out
      simpa [intOf] using this

set_option maxHeartbeats 4000000 in
theorem walkB_any (A D : Nat → List Int) (p s : Int) (B n : Nat) (L : List (List Int)) (w : World) (h : PartS w B (3 * n) (3 * n) L) (hn : n ≤ 24) (hs : 0 ≤ s ∧ s < 16)
    (hA : Small A n) (hD : Small D n) (eA : ∀ k, A k = L.getD (3 * k + 1) []) (eD : ∀ k, D k = L.getD (3 * k) []) :
    Calls Try.prog 50 #[.agg #[.int .i64 p, .slice (some ⟨B, 0, none⟩) n n], .int .i64 s, .func (.func 52) #[] #[], .func (.func 51) #[] #[]] w fun e w' => e = .returned (.int .u16 (rchM A D n s : Int)) ∧ Below w.heap.size w w' := by
  have HP := hide h
  have HA := hide hA
  have HD := hide hD
  have EA := hide eA
  have ED := hide eD
  have hs0 := hs.1
  have hs1 := hs.2
  clear h eA eD hA hD hs
  go_enter Try.func50, Try.ntmps50
  go_wp2_with fail
  refine (fun pass => wp_scope_jumps2 0 (fun a' w' => ∃ (m : Nat) (u5 u6 u7 u10 u11 u12 u13 u14 u15 u16 u17 u18 u19 u20 u21 u22 u23 u24 u25 u26 u27 u28 u29 u30 u31 u32 u33 u34 u35 u36 u37 u38 u39 u40 u41 : Value), a' = { tmps := #[.agg #[.int .i64 p, .slice (some ⟨B, 0, none⟩) n n], .int .i64 s, .func (.func 52) #[] #[], .func (.func 51) #[] #[], .pointer (some ⟨w.heap.size, 0, none⟩), u5, u6, u7, .int .u16 0, .int .u16 (m : Int), u10, u11, u12, u13, u14, u15, u16, u17, u18, u19, u20, u21, u22, u23, u24, u25, u26, u27, u28, u29, u30, u31, u32, u33, u34, u35, u36, u37, u38, u39, u40, u41], defers := [] } ∧ Hid (WkInv w w' p B n m A D s)) (fun a' _ => 65536 - (intOf (a'.tmps.getD 9 undef)).toNat) rfl ?_ pass) ?_
  · have HPAR := hide (heap_alloc_new w (.cells #[.int .i64 p, .slice (some ⟨B, 0, none⟩) n n] 49))
    have HB0 := hide (below_al w (.cells #[.int .i64 p, .slice (some ⟨B, 0, none⟩) n n] 49))
    have HC0 := hide (Come.start (A := A) (B := D) (n := n) ⟨hs0, hs1⟩)
    have HW : Hid (IntKind.u16.wrap (2 ^ s.toNat) = ((2 ^ s.toNat : Nat) : Int)) := by
      show _ = _
      rw [show ((2 : Int) ^ s.toNat) = ((2 ^ s.toNat : Nat) : Int) by simp]
      exact wraps_u16 _ (Int.natCast_nonneg _) (by exact_mod_cast HC0.out.lt)
    go_wp2_with fail
    go_step3
    rename_i K hK
    rw [HW.out]
    refine hK _ _ (Code.wp_mono ?_ (pass _ _ ⟨2 ^ s.toNat, _, _, _, _, _, _, _, _, _, _, _, _, _, _, _, _, _, _, _, _, _, _, _, _, _, _, _, _, _, _, _, _, _, _, _, rfl, ⟨HPAR.out, HB0.out, HC0.out⟩⟩))
    intro e a2 w2 hq
    cases e <;> first | exact hq | exact ⟨hq.1, hq.2.1⟩
  · rintro a' w' ⟨m, u5, u6, u7, u10, u11, u12, u13, u14, u15, u16, u17, u18, u19, u20, u21, u22, u23, u24, u25, u26, u27, u28, u29, u30, u31, u32, u33, u34, u35, u36, u37, u38, u39, u40, u41, rfl, hin⟩
    obtain ⟨hc0, hc1⟩ := cells2 hin.out.par
    have hm := hin.out.come.lt
    go_wp2_with fail
    clear hc0 hc1
    go_loopw [9, 17] (fun c i wr => ∃ k : Nat, k ≤ n ∧ i = .int .i64 k ∧ c = .int .u16 (m : Int) ∧ Hid (∀ j, j < k → Quiet A D j m) ∧ Hid (WkInv w wr p B n m A D s)) (fun _ i _ => n - (intOf i).toNat)
    case atStart => exact ⟨0, Nat.zero_le _, rfl, rfl, fun j hj => absurd hj (by omega), hin⟩
    case round =>
      clear hin
      obtain ⟨k, hk, rfl, rfl, hu, hin⟩ := hrel
      by_cases hlt : k < n
      rotate_left
      · have hk' : k = n := by omega
        subst hk'
        have HR := hide (rchM_eq HD.out ⟨hs0, hs1⟩ (hin.out.come.done HA.out HD.out hu.out))
        clear hm
        go_wp2_with fail
        simp only [Exit.jump]
        go_ret
        exact ⟨ret_u16 HR.out, hin.out.bel⟩
      obtain ⟨hc0, hc1, hc2⟩ := (HP.out.grow hin.out.bel).atW hlt
      have ea := EA.out k
      have ed := ED.out k
      have ha16 : maskL (A k) < 2 ^ 16 := maskL_lt _ fun x hx => (HA.out k hlt x hx).2
      have hd16 : maskL (D k) < 2 ^ 16 := maskL_lt _ fun x hx => (HD.out k hlt x hx).2
      have HQ := hide (fun (h : Quiet A D k m) (j : Nat) (hj : j < k + 1) => (if e : j < k then hu.out j e else (by rw [show j = k by omega]; exact h) : Quiet A D j m))
      have HMO := hide (fun (h : maskL (A k) &&& m ≠ 0) => hin.out.come.more HA.out HD.out hlt h)
      have HOR := hide (or_u16 m (maskL (D k)) hm hd16)
      unfold Quiet at HQ
      rw [ea] at HQ HMO ha16
      rw [ed] at HQ HMO hd16 HOR
      have HA1 := hide (below_al wr (.cells #[.int .u16 (maskL (L.getD (3 * k) []) : Int), .int .u16 (maskL (L.getD (3 * k + 1) []) : Int), .int .u16 (maskL (L.getD (3 * k + 2) []) : Int)] 58))
      have HPAR := hide hin.out.par
      have HB0 := hide hin.out.bel
      have HCO := hide hin.out.come
      clear hin hu ea ed
      generalize maskL (L.getD (3 * k) []) = s0 at *
      generalize maskL (L.getD (3 * k + 1) []) = s1 at *
      generalize maskL (L.getD (3 * k + 2) []) = s2 at *
      go_wp2_with fail
      refine (behind_any _ _ _ _).mono ?_
      rintro e w1 ⟨rfl, hb⟩
      have HB1 := hide (HA1.out.trans (hb.mono HA1.out.size))
      have hX := keep (heap_alloc_new wr (.cells #[.int .u16 (s0 : Int), .int .u16 (s1 : Int), .int .u16 (s2 : Int)] 58)) hb
      have hx0 := cell_of_row w1 _ 0 _ _ _ hX
      have hx1 := cell_of_row w1 _ 1 _ _ _ hX
      have hx2 := cell_of_row w1 _ 2 _ _ _ hX
      simp at hx0 hx1 hx2
      have HX := hide hX
      clear hb HA1 hX hc0 hc1 hc2
      by_cases hz : s1 &&& m = 0
      · have hcd := meetW_no ha16 hm hz
        have HQ1 := hide (HQ.out (.inl hz))
        have HI : Hid (WkInv w w1 p B n m A D s) := ⟨keep HPAR.out HB1.out, HB0.out.trans (HB1.out.mono HB0.out.size), HCO.out⟩
        clear HQ HMO HOR HPAR HB0 HCO hz HX
        go_wp2_with fail
        go_roundw
        case rel => exact ⟨k + 1, by omega, by go_num, rfl, HQ1, HI⟩
        case measure => simp [intOf]; omega
      have hcd := meetW_yes ha16 hm hz
      have HZ : Hid (s1 &&& m ≠ 0) := hz
      clear hz
      go_wp2_with fail
      refine (ahead_any _ _ _ _).mono ?_
      rintro e w2 ⟨rfl, hb⟩
      have HB2 := hide (HB1.out.trans (hb.mono HB1.out.size))
      have hX := keep HX.out hb
      have hx0 := cell_of_row w2 _ 0 _ _ _ hX
      have hx1 := cell_of_row w2 _ 1 _ _ _ hX
      have hx2 := cell_of_row w2 _ 2 _ _ _ hX
      simp at hx0 hx1 hx2
      clear hb hX HX HB1
      by_cases hy : s0 &&& m = s0
      · have hcd2 := lessW_no hy
        have HQ1 := hide (HQ.out (.inr hy))
        have HI : Hid (WkInv w w2 p B n m A D s) := ⟨keep HPAR.out HB2.out, HB0.out.trans (HB2.out.mono HB0.out.size), HCO.out⟩
        clear HQ HMO HOR HPAR HB0 HCO hy
        go_wp2_with fail
        go_roundw
        case rel => exact ⟨k + 1, by omega, by go_num, rfl, HQ1, HI⟩
        case measure => simp [intOf]; omega
      have hcd2 := lessW_yes hd16 hy
      have HMO1 := hide (HMO.out HZ.out)
      have HLE := hide (come_less HMO1.out.lt hy)
      clear hy HMO HQ
      go_wp2_with fail
      refine (ahead_any _ _ _ _).mono ?_
      rintro e w3 ⟨rfl, hb⟩
      have HI : Hid (WkInv w w3 p B n (m ||| s0) A D s) := ⟨keep (keep HPAR.out HB2.out) hb, HB0.out.trans ((HB2.out.trans (hb.mono HB2.out.size)).mono HB0.out.size), HMO1.out⟩
      clear hb HB0 HPAR HB2 HCO
      go_wp2_with fail
      go_step3
      rw [HOR.out]
      refine ⟨rfl, ⟨m ||| s0, _, _, _, _, _, _, _, _, _, _, _, _, _, _, _, _, _, _, _, _, _, _, _, _, _, _, _, _, _, _, _, _, _, _, _, rfl, HI⟩, ?_⟩
      have := HLE.out
      simpa [intOf] using this

end Go.Proofs.Ytoijlepjnpdlkaa


/- Steps of a region that draws its order, by hand: a call, an operation that is not wanted. -/
namespace Go.Proofs.Ytoijlepjnpdlkaa
open Go.RowKit

theorem run_callw {P : Program} {o : Oper} {a : Act} {w : World} (f : FuncId) (fn : Func) (xs : Array Operand) (ts : Array TypeId) (hop : o.op = Op.call { callee := Callee.value (Operand.func f), args := xs, argTypes := ts })
    (hfn : P.funcs[f]? = some fn) (hnm : (fn.name == "runtime.NumGoroutine") = false) (hbd : fn.body.isNone = false) : (execOp a.eval o).run P w = .ok (.enter f (xs.map a.eval)) w := by
  have hnm' : ¬ fn.name = "runtime.NumGoroutine" := by simpa using hnm
  have hbd' : ¬ fn.body = none := by intro e; rw [e] at hbd; simp at hbd
  unfold execOp
  simp only [hop]
  simp [resolve, invoke, go_sem, Act.eval, callFunc, hfn, hnm', hbd']

/-- A call that is wanted as one step of a region that draws its order. -/
theorem step_callW {P : Program} {ops : Array Oper} {o : Oper} {a : Act} {w : World} {K : Act → World → Prop} {Q : Exit → Act → World → Prop} {E : Prop}
    (hw : Region.wanted o (yielded ops a.tmps) = true) (f : FuncId) (fn : Func) (xs : Array Operand) (ts : Array TypeId) (hop : o.op = Op.call { callee := Callee.value (Operand.func f), args := xs, argTypes := ts })
    (hfn : P.funcs[f]? = some fn) (hnm : (fn.name == "runtime.NumGoroutine") = false) (hbd : fn.body.isNone = false) (args : Array Value) (hargs : xs.map a.eval = args) (R : Ending → World → Prop) (hc : Calls P f args w R)
    (h : ∀ e w', R e w' → ∃ v, e = .returned v ∧ K (a.put o.dst v) w') :
    if Region.wanted o (yielded ops a.tmps) = true then Oper.wp P o a w K Q else E := by
  rw [if_pos hw]
  unfold Oper.wp
  rw [run_callw f fn xs ts hop hfn hnm hbd, hargs, Oper.upon_enter]
  refine hc.mono fun e w'' hh => ?_
  obtain ⟨v, rfl, hk⟩ := h e w'' hh
  exact hk

theorem mapw1 (g : Operand → Value) (x : Operand) (v : Value) (h : g x = v) : (#[x] : Array Operand).map g = #[v] := by simp [h]
theorem mapw2 (g : Operand → Value) (x y : Operand) (v u : Value) (h : g x = v) (h2 : g y = u) : (#[x, y] : Array Operand).map g = #[v, u] := by simp [h, h2]

section
variable {P : Program} {ops : Array Oper} {Q : Exit → Act → World → Prop} {md : Region.Mode} {S : World → Prop}

/-- What is not wanted is taken first. -/
theorem take_no {i : Nat} {oi : Oper} {fuel : Nat} {listed : Array Bool} {a : Act} {w : World} (d : Option Tmp) (hi : ops[i]? = some oi) (hd : oi.dst = d)
    (hs : Region.noSelect ops = true) (hf : Region.free md ops listed i = true) (hr : (Region.ready md ops listed).contains i = true)
    (hQ : ∀ c a w, Q (.panic c) (a.put d undef) w → Q (.panic c) a w) (hw : Region.wanted oi (yielded ops a.tmps) = false) (hS : S w)
    (h : wpAnyH P md ops Q S fuel (listed.setIfInBounds i true) (a.put d undef) w) : wpAnyH P md ops Q S (fuel + 1) listed a w := by
  subst hd
  exact wpAnyH_take hi hs hf hr hQ (.inr ⟨hw, rfl⟩) hS h

/-- What is wanted and yields its value wherever S holds is taken first. -/
theorem take_yes {i : Nat} {oi : Oper} {fuel : Nat} {listed : Array Bool} {a : Act} {w : World} (d : Option Tmp) (v : Value) (hi : ops[i]? = some oi) (hd : oi.dst = d)
    (hs : Region.noSelect ops = true) (hf : Region.free md ops listed i = true) (hr : (Region.ready md ops listed).contains i = true)
    (hQ : ∀ c a w, Q (.panic c) (a.put d v) w → Q (.panic c) a w) (hw : Region.wanted oi (yielded ops a.tmps) = true) (hy : ∀ w, S w → (execOp a.eval oi).run P w = .ok (.value v) w) (hS : S w)
    (h : wpAnyH P md ops Q S fuel (listed.setIfInBounds i true) (a.put d v) w) : wpAnyH P md ops Q S (fuel + 1) listed a w := by
  subst hd
  exact wpAnyH_take hi hs hf hr hQ (.inl ⟨hw, hy⟩) hS h

/-- A call that must come up next. -/
theorem call_next {i : Nat} {oi : Oper} {fuel : Nat} {listed : Array Bool} {a : Act} {w : World} (d : Option Tmp) (hi : ops[i]? = some oi) (hd : oi.dst = d) (hr : Region.ready md ops listed = [i])
    (hw : Region.wanted oi (yielded ops a.tmps) = true) (f : FuncId) (fn : Func) (xs : Array Operand) (ts : Array TypeId) (hop : oi.op = Op.call { callee := Callee.value (Operand.func f), args := xs, argTypes := ts })
    (hfn : P.funcs[f]? = some fn) (hnm : (fn.name == "runtime.NumGoroutine") = false) (hbd : fn.body.isNone = false) (args : Array Value) (hargs : xs.map a.eval = args) (R : Ending → World → Prop) (hc : Calls P f args w R)
    (h : ∀ e w', R e w' → ∃ v, e = .returned v ∧ S w' ∧ (S w' → wpAnyH P md ops Q S fuel (listed.setIfInBounds i true) (a.put d v) w')) : wpAnyH P md ops Q S (fuel + 1) listed a w := by
  subst hd
  refine wpAnyH_ready hr (by simp) (AllReadyH.cons hi (fun K hK => ?_) AllReadyH.nil)
  refine step_callW hw f fn xs ts hop hfn hnm hbd args hargs R hc ?_
  intro e w' hR
  obtain ⟨v, e1, h1, h2⟩ := h e w' hR
  exact ⟨v, e1, hK.out _ _ h1 h2⟩

/-- A store of a whole row that must come up next. -/
theorem store_next {i : Nat} {oi : Oper} {fuel : Nat} {listed : Array Bool} {a : Act} {w : World} (hi : ops[i]? = some oi) (hd : oi.dst = none) (hr : Region.ready md ops listed = [i])
    (hw : Region.wanted oi (yielded ops a.tmps) = true) (ty : TypeId) (x y : Operand) (hop : oi.op = .store ty x y)
    (g : Nat) (cells : Array Value) (hx : a.eval x = .pointer (some ⟨g, 0, none⟩)) (hy : a.eval y = .agg cells)
    (t : TypeId) (old : Array Value) (hg : w.heap[g]? = some (.cells old t (0, 0))) (hz : (P.info? ty).map (·.size) = some cells.size)
    (hold : old.size = cells.size) (h1 : cells.all (·.oneCell') = true)
    (hS : S (w.setRow g cells)) (h : S (w.setRow g cells) → wpAnyH P md ops Q S fuel (listed.setIfInBounds i true) a (w.setRow g cells)) : wpAnyH P md ops Q S (fuel + 1) listed a w := by
  refine wpAnyH_ready hr (by simp) (AllReadyH.cons hi (fun K hK => ?_) AllReadyH.nil)
  rw [if_pos hw]
  refine wp_store_row ty x y hop g cells hx hy t old hg hz hold h1 (hK.out _ _ ?_ ?_)
  · exact hS
  · rw [hd]; exact h

/-- A store of some cells in a row that must come up next. -/
theorem store_mid_next {i : Nat} {oi : Oper} {fuel : Nat} {listed : Array Bool} {a : Act} {w : World} (hi : ops[i]? = some oi) (hd : oi.dst = none) (hr : Region.ready md ops listed = [i])
    (hw : Region.wanted oi (yielded ops a.tmps) = true) (ty : TypeId) (x y : Operand) (hop : oi.op = .store ty x y)
    (b o : Nat) (cells : Array Value) (hx : a.eval x = .pointer (some ⟨b, o, none⟩)) (hy : a.eval y = .agg cells) (ht : w.there b o cells.size) (hz : (P.info? ty).map (·.size) = some cells.size)
    (h1 : cells.all (·.oneCell') = true)
    (hS : S (w.setCells b o cells.toList)) (h : S (w.setCells b o cells.toList) → wpAnyH P md ops Q S fuel (listed.setIfInBounds i true) a (w.setCells b o cells.toList)) : wpAnyH P md ops Q S (fuel + 1) listed a w := by
  refine wpAnyH_ready hr (by simp) (AllReadyH.cons hi (fun K hK => ?_) AllReadyH.nil)
  rw [if_pos hw]
  refine wp_store_mid ty x y hop b o cells hx hy ht hz h1 (hK.out _ _ ?_ ?_)
  · exact hS
  · rw [hd]; exact h
end

theorem mapw4 (g : Operand → Value) (x y z u : Operand) (a b c d : Value) (h : g x = a) (h2 : g y = b) (h3 : g z = c) (h4 : g u = d) : (#[x, y, z, u] : Array Operand).map g = #[a, b, c, d] := by simp [h, h2, h3, h4]

theorem setRow_sameW {w : World} {b : Nat} {C : Array Value} {t : TypeId} (hb : w.heap[b]? = some (.cells C t (0, 0))) (D : Array Value) : (w.setRow b D).heap[b]? = some (.cells D t (0, 0)) := by
  simp only [World.setRow, Array.getElem?_modify]
  rw [if_pos trivial, hb]
  rfl

theorem setRow_otherW (w : World) {b k : Nat} (h : k ≠ b) (D : Array Value) : (w.setRow b D).heap[k]? = w.heap[k]? := by
  simp only [World.setRow, Array.getElem?_modify]
  rw [if_neg (fun e => h e.symm)]
end Go.Proofs.Ytoijlepjnpdlkaa


/- waysOf of the program, and what is asked of a step. -/
namespace Go.Proofs.Ytoijlepjnpdlkaa
open Go.RowKit
set_option maxRecDepth 10000

def inL (L : List (List Int)) (k : Nat) : List Int := L.getD (3 * k) []
def outL (L : List (List Int)) (k : Nat) : List Int := L.getD (3 * k + 1) []

noncomputable def fthM (n : Nat) (L : List (List Int)) (s : Int) : Nat := rchM (inL L) (outL L) n s
noncomputable def bckM (n : Nat) (L : List (List Int)) (t : Int) : Nat := rchM (outL L) (inL L) n t

theorem netOk_parts {p : Int} {n : Nat} {L : List (List Int)} (h : netOk p n L = true) : (1 ≤ p ∧ p ≤ 16) ∧ n ≤ 24 ∧ ∀ k, k < n → tri3Ok p (L.getD (3 * k) []) (L.getD (3 * k + 1) []) (L.getD (3 * k + 2) []) = true := by
  unfold netOk at h
  simp only [Bool.and_eq_true] at h
  refine ⟨?_, ?_, fun k hk => ?_⟩
  · have := h.1.1; simp [inB] at this; omega
  · simpa using h.1.2
  · have := List.all_eq_true.mp h.2 k (by simpa using hk)
    rwa [triOk_eq] at this

theorem tri3_rise {p : Int} {x0 x1 x2 : List Int} (h : tri3Ok p x0 x1 x2 = true) : riseB x0 0 (p - 1) = true ∧ riseB x1 0 (p - 1) = true ∧ riseB x2 0 (p - 1) = true := by
  unfold tri3Ok at h
  simp only [Bool.and_eq_true] at h
  exact ⟨h.1.1.2, h.1.2, h.2⟩

theorem netOk_mem {p : Int} {n : Nat} {L : List (List Int)} (h : netOk p n L = true) {k : Nat} (hk : k < n) :
    (∀ x ∈ inL L k, 0 ≤ x ∧ x < p) ∧ (∀ x ∈ outL L k, 0 ≤ x ∧ x < p) ∧ (∀ x ∈ L.getD (3 * k + 2) [], 0 ≤ x ∧ x < p) := by
  obtain ⟨_, _, h3⟩ := netOk_parts h
  obtain ⟨r0, r1, r2⟩ := tri3_rise (h3 k hk)
  refine ⟨fun x hx => ?_, fun x hx => ?_, fun x hx => ?_⟩
  · have := riseB_mem r0 x hx; omega
  · have := riseB_mem r1 x hx; omega
  · have := riseB_mem r2 x hx; omega

theorem small_in {p : Int} {n : Nat} {L : List (List Int)} (h : netOk p n L = true) : Small (inL L) n := fun k hk x hx => by
  have := (netOk_mem h hk).1 x hx
  have := (netOk_parts h).1
  omega
theorem small_out {p : Int} {n : Nat} {L : List (List Int)} (h : netOk p n L = true) : Small (outL L) n := fun k hk x hx => by
  have := (netOk_mem h hk).2.1 x hx
  have := (netOk_parts h).1
  omega

theorem ret_b {a b : Bool} (h : a = b) : Ending.returned (.bool a) = .returned (.bool b) := by rw [h]

theorem lacksPlace_any (p q : Int) (a : Option Addr) (n c : Nat) (w : World) :
    Calls Try.prog 49 #[.agg #[.int .i64 p, .slice a n c], .int .i64 q] w fun e w' => e = .returned (.bool (!inB q 0 (p - 1))) ∧ Below w.heap.size w w' := by
  have HX : Hid (∀ b : Bool, (b = true ↔ q < 0 ∨ p ≤ q) → b = !inB q 0 (p - 1)) := by
    intro b hb
    unfold inB
    cases b
    · have : ¬ (q < 0 ∨ p ≤ q) := fun h => by simpa using hb.mpr h
      simp; omega
    · have := hb.mp rfl
      simp; omega
  by_cases h0 : q < 0
  · go_enter Try.func49, Try.ntmps49
    go_wp2_with fail
    go_ret
    exact ⟨ret_b (HX.out true (by simp [h0])), below_al _ _⟩
  by_cases h1 : p ≤ q
  · go_enter Try.func49, Try.ntmps49
    go_wp2_with fail
    go_ret
    exact ⟨ret_b (HX.out true (by simp [h1])), below_al _ _⟩
  · go_enter Try.func49, Try.ntmps49
    go_wp2_with fail
    go_ret
    exact ⟨ret_b (HX.out false (by simp; omega)), below_al _ _⟩

/-- Whether a net is good and two numbers are places of it. -/
def wayOk (p : Int) (n : Nat) (L : List (List Int)) (s t : Int) : Bool := netOk p n L && inB s 0 (p - 1) && inB t 0 (p - 1)

/-- How waysOf ends. -/
def WayEnd (g : Bool) (p : Int) (n : Nat) (L : List (List Int)) (s t : Int) (w : World) (e : Ending) (w' : World) : Prop :=
  ∃ p' a m c F K, e = .returned (.tuple #[.agg #[.int .i64 p', .slice a m c, .int .u16 ((F : Nat) : Int), .int .u16 ((K : Nat) : Int)], .bool g]) ∧
    Hid (g = true → p' = p ∧ m = n ∧ c = n ∧ F = fthM n L s ∧ K = bckM n L t ∧ ∃ B, a = some ⟨B, 0, none⟩ ∧ w.heap.size ≤ B ∧ PartS w' B (3 * n) (3 * n) L) ∧ Below w.heap.size w w'

theorem wayEnd_no {p : Int} {n : Nat} {L : List (List Int)} {s t : Int} {w w' : World} (h : wayOk p n L s t = false) (hb : Below w.heap.size w w') :
    WayEnd (wayOk p n L s t) p n L s t w (.returned (.tuple #[.agg #[.int .i64 0, .slice none 0 0, .int .u16 0, .int .u16 0], .bool false])) w' :=
  ⟨0, none, 0, 0, 0, 0, by rw [h]; rfl, by rw [h]; intro e; simp at e, hb⟩

theorem cells4 {w : World} {b : Nat} {v0 v1 v2 v3 : Value} {T : TypeId} (h : w.heap[b]? = some (.cells #[v0, v1, v2, v3] T (0, 0))) :
    (w.cell? ⟨b, 0, none⟩ = some v0 ∧ w.cell? ⟨b, 1, none⟩ = some v1 ∧ w.cell? ⟨b, 2, none⟩ = some v2 ∧ w.cell? ⟨b, 3, none⟩ = some v3) ∧
    (w.frozen? ⟨b, 0, none⟩ = false ∧ w.frozen? ⟨b, 1, none⟩ = false ∧ w.frozen? ⟨b, 2, none⟩ = false ∧ w.frozen? ⟨b, 3, none⟩ = false) :=
  ⟨⟨cell_of_row w b 0 _ _ _ h, cell_of_row w b 1 _ _ _ h, cell_of_row w b 2 _ _ _ h, cell_of_row w b 3 _ _ _ h⟩,
   ⟨frozen_of_row w b 0 _ _ h, frozen_of_row w b 1 _ _ h, frozen_of_row w b 2 _ _ h, frozen_of_row w b 3 _ _ h⟩⟩

theorem below_set4 {B : Nat} {a w : World} (h : Below B a w) {g : Nat} (hg : B ≤ g) (v0 v1 v2 v3 : Value) :
    Below B a ((((w.setCell ⟨g, 0, none⟩ v0).setCell ⟨g, 1, none⟩ v1).setCell ⟨g, 2, none⟩ v2).setCell ⟨g, 3, none⟩ v3) :=
  (((h.setCell (by simpa using hg) _).setCell (by simpa using hg) _).setCell (by simpa using hg) _).setCell (by simpa using hg) _

theorem PartS.set4 {w : World} {B n k g : Nat} {L : List (List Int)} (h : PartS w B n k L) (hg : B ≠ g) (v0 v1 v2 v3 : Value) : PartS ((((w.setCell ⟨g, 0, none⟩ v0).setCell ⟨g, 1, none⟩ v1).setCell ⟨g, 2, none⟩ v2).setCell ⟨g, 3, none⟩ v3) B n k L :=
  (((h.set_other hg 0 v0).set_other hg 1 v1).set_other hg 2 v2).set_other hg 3 v3

theorem Try.size72 : (Try.prog.info? 72).map (·.size) = some 4 := by kernel_rfl

theorem PartS.setRowW {w : World} {B n k g : Nat} {L : List (List Int)} (h : PartS w B n k L) (hg : B ≠ g) (D : Array Value) : PartS (w.setRow g D) B n k L := by
  obtain ⟨C, h1, h2, h3⟩ := h
  exact ⟨C, (setRow_otherW w hg D).trans h1, h2, h3⟩

theorem keep2 {W W' : World} {a1 a2 : Addr} {v1 v2 : Value} (hb : Below W.heap.size W W') (h : W.cell? a1 = some v1 ∧ W.cell? a2 = some v2) : W'.cell? a1 = some v1 ∧ W'.cell? a2 = some v2 :=
  ⟨(hb.cell (World.block_lt_of_cell? _ _ h.1)).trans h.1, (hb.cell (World.block_lt_of_cell? _ _ h.2)).trans h.2⟩

theorem keep2_set4 {W : World} {g b x1 x2 : Nat} {v1 v2 u0 u1 u2 u3 : Value} (hg : b ≠ g) (h : W.cell? ⟨b, x1, none⟩ = some v1 ∧ W.cell? ⟨b, x2, none⟩ = some v2) :
    ((((W.setCell ⟨g, 0, none⟩ u0).setCell ⟨g, 1, none⟩ u1).setCell ⟨g, 2, none⟩ u2).setCell ⟨g, 3, none⟩ u3).cell? ⟨b, x1, none⟩ = some v1 ∧ ((((W.setCell ⟨g, 0, none⟩ u0).setCell ⟨g, 1, none⟩ u1).setCell ⟨g, 2, none⟩ u2).setCell ⟨g, 3, none⟩ u3).cell? ⟨b, x2, none⟩ = some v2 := by
  have far : ∀ x, ((((W.setCell ⟨g, 0, none⟩ u0).setCell ⟨g, 1, none⟩ u1).setCell ⟨g, 2, none⟩ u2).setCell ⟨g, 3, none⟩ u3).cell? ⟨b, x, none⟩ = W.cell? ⟨b, x, none⟩ := fun x => by
    rw [World.cell?_setCell_far _ _ _ _ (fun e => hg e.symm), World.cell?_setCell_far _ _ _ _ (fun e => hg e.symm), World.cell?_setCell_far _ _ _ _ (fun e => hg e.symm), World.cell?_setCell_far _ _ _ _ (fun e => hg e.symm)]
  exact ⟨(far _).trans h.1, (far _).trans h.2⟩

set_option maxHeartbeats 4000000 in
theorem waysOf_any (p s t : Int) (a : Option Addr) (n c : Nat) (L : List (List Int)) (w : World) (h : Lists w a (3 * n) L) (hs : sizeN n L ≤ 1048576) :
    Calls Try.prog 30 #[.agg #[.int .i64 p, .slice a n c], .int .i64 s, .int .i64 t] w fun e w' => WayEnd (wayOk p n L s t) p n L s t w e w' := by
  have HT := hide (netSteps_any p a n c L ((w.alloc (.cells #[.int .i64 p, .slice a n c] 30)).alloc (.cells #[.int .i64 0, .slice none 0 0, .int .u16 0, .int .u16 0] 72)) (h.below (below_two _ _ _)) hs)
  have HA := hide (below_two w (.cells #[.int .i64 p, .slice a n c] 30) (.cells #[.int .i64 0, .slice none 0 0, .int .u16 0, .int .u16 0] 72))
  have HR0 : Hid (((w.alloc (.cells #[.int .i64 p, .slice a n c] 30)).alloc (.cells #[.int .i64 0, .slice none 0 0, .int .u16 0, .int .u16 0] 72)).heap[w.heap.size + 1]? = some (.cells #[.int .i64 0, .slice none 0 0, .int .u16 0, .int .u16 0] 72 (0, 0))) := by
    have := heap_alloc_new (w.alloc (.cells #[.int .i64 p, .slice a n c] 30)) (.cells #[.int .i64 0, .slice none 0 0, .int .u16 0, .int .u16 0] 72)
    rw [show (w.alloc (.cells #[.int .i64 p, .slice a n c] 30)).heap.size = w.heap.size + 1 by simp] at this
    exact this
  clear h
  by_cases hg : netOk p n L = true
  rotate_left
  · have hg' : netOk p n L = false := by simpa using hg
    have HN := hide (show wayOk p n L s t = false by unfold wayOk; rw [hg']; rfl)
    rw [hg'] at HT
    clear hg hg'
    go_enter Try.func30, Try.ntmps30
    go_wp2_with fail
    refine HT.out.mono ?_
    rintro e w2 ⟨p', a', m, c', rfl, hx, hb⟩
    have HB2 := hide (HA.out.trans (hb.mono HA.out.size))
    have hR := keep HR0.out hb
    obtain ⟨⟨hr0, hr1, hr2, hr3⟩, hf0, hf1, hf2, hf3⟩ := cells4 hR
    have hlr : w.heap.size + 1 < w2.heap.size := (Array.getElem?_eq_some_iff.mp hR).1
    clear hb HT hx HA HR0 hR
    go_wp2_with fail
    refine bodyPost_ret (v := .tuple #[.agg #[.int .i64 0, .slice none 0 0, .int .u16 0, .int .u16 0], .bool false]) (by simp [results, Try.results30, go_sem, hr0, hr1, hr2, hr3, hlr]) rfl ?_
    exact wayEnd_no HN.out ((below_set4 HB2.out (by simp) _ _ _ _).alloc (by have := HB2.out.size; simp [World.setCell]; omega) _)
  have HG := hide hg
  have HPP := hide (netOk_parts hg)
  rw [hg] at HT
  clear hg
  go_enter Try.func30, Try.ntmps30
  go_wp2_with fail
  refine HT.out.mono ?_
  rintro e w2 ⟨p', a', m, c', rfl, hx, hb⟩
  obtain ⟨e1, e2, e3, B, rfl, hBs, hps⟩ := hx.out rfl
  subst e1 e2 e3
  have hA := below_al w2 (.cells #[.int .i64 p', .slice (some ⟨B, 0, none⟩) c' c'] 49)
  have HB2 := hide (HA.out.trans ((hb.trans (hA.mono hb.size)).mono HA.out.size))
  have HR2 := hide (keep (keep HR0.out hb) hA)
  have HPS := hide (hps.grow hA)
  have HV2 := hide (heap_alloc_new w2 (.cells #[.int .i64 p', .slice (some ⟨B, 0, none⟩) c' c'] 49))
  have HBs := hide (show w.heap.size + 1 + 1 ≤ B by simpa using hBs)
  have HW2 := hide (show w.heap.size + 1 < w2.heap.size from (Array.getElem?_eq_some_iff.mp (keep HR0.out hb)).1)
  clear hx hb hBs hps hA HT HA HR0
  go_wp2_with fail
  refine (lacksPlace_any _ _ _ _ _ _).mono ?_
  rintro e w3 ⟨rfl, hb3⟩
  have HB3 := hide (HB2.out.trans (hb3.mono HB2.out.size))
  have HR3 := hide (keep HR2.out hb3)
  have HV3 := hide (keep HV2.out hb3)
  have HPS3 := hide (HPS.out.grow hb3)
  clear hb3 HB2 HR2 HV2 HPS
  by_cases hq : inB s 0 (p' - 1) = true
  rotate_left
  · have hq' : inB s 0 (p' - 1) = false := by simpa using hq
    have HN := hide (show wayOk p' c' L s t = false by unfold wayOk; rw [hq']; simp)
    rw [hq']
    obtain ⟨⟨hr0, hr1, hr2, hr3⟩, hf0, hf1, hf2, hf3⟩ := cells4 HR3.out
    clear hq hq'
    go_wp2_with fail
    refine bodyPost_ret (v := .tuple #[.agg #[.int .i64 0, .slice none 0 0, .int .u16 0, .int .u16 0], .bool false]) (by simp [results, Try.results30, go_sem, hr0, hr1, hr2, hr3]) rfl ?_
    exact wayEnd_no HN.out (below_set4 HB3.out (by simp) _ _ _ _)
  have HQ := hide hq
  rw [hq]
  obtain ⟨hv0, hv1⟩ := cells2 HV3.out
  clear hq
  go_wp2_with fail
  refine (lacksPlace_any _ _ _ _ _ _).mono ?_
  rintro e w4 ⟨rfl, hb3⟩
  have HB4 := hide (HB3.out.trans (hb3.mono HB3.out.size))
  have HR4 := hide (keep HR3.out hb3)
  have HV4 := hide (keep HV3.out hb3)
  have HPS4 := hide (HPS3.out.grow hb3)
  clear hb3 HB3 HR3 HV3 HPS3 hv0 hv1
  by_cases hq : inB t 0 (p' - 1) = true
  rotate_left
  · have hq' : inB t 0 (p' - 1) = false := by simpa using hq
    have HN := hide (show wayOk p' c' L s t = false by unfold wayOk; rw [hq']; simp)
    rw [hq']
    obtain ⟨⟨hr0, hr1, hr2, hr3⟩, hf0, hf1, hf2, hf3⟩ := cells4 HR4.out
    clear hq hq'
    go_wp2_with fail
    refine bodyPost_ret (v := .tuple #[.agg #[.int .i64 0, .slice none 0 0, .int .u16 0, .int .u16 0], .bool false]) (by simp [results, Try.results30, go_sem, hr0, hr1, hr2, hr3]) rfl ?_
    exact wayEnd_no HN.out (below_set4 HB4.out (by simp) _ _ _ _)
  have HQ2 := hide hq
  rw [hq]
  clear hq
  have hp := HPP.out.1
  have hn24 := HPP.out.2.1
  have HWS := hide (fun W (hW : PartS W B (3 * c') (3 * c') L) => walkF_any (inL L) (outL L) p' s B c' L W hW hn24 (by have := HQ.out; simp [inB] at this; omega) (small_in HG.out) (small_out HG.out) (fun _ => rfl) (fun _ => rfl))
  have HWB := hide (fun W (hW : PartS W B (3 * c') (3 * c') L) => walkB_any (outL L) (inL L) p' t B c' L W hW hn24 (by have := HQ2.out; simp [inB] at this; omega) (small_out HG.out) (small_in HG.out) (fun _ => rfl) (fun _ => rfl))
  have HOK := hide (show wayOk p' c' L s t = true by unfold wayOk; rw [HG.out, HQ.out, HQ2.out]; rfl)
  clear hp
  go_wp2_with fail
  obtain ⟨V, hV⟩ : ∃ V, Hid (w2.heap.size = V) := ⟨_, rfl⟩
  rw [hV.out] at HV4 HW2 ⊢
  have HVF := hide (keep HV4.out (Below.refl _ w4).drew)
  have hVR : V ≠ w.heap.size + 1 := by have := HW2.out; omega
  obtain ⟨F, hF⟩ : ∃ F, Hid (rchM (inL L) (outL L) c' s = F) := ⟨_, rfl⟩
  obtain ⟨K, hK⟩ : ∃ F, Hid (rchM (outL L) (inL L) c' t = F) := ⟨_, rfl⟩
  rw [hF.out] at HWS
  rw [hK.out] at HWB
  have HPF : Hid (PartS w4.drew B (3 * c') (3 * c') L) := HPS4.out.grow (Below.refl _ w4).drew
  have HRF := hide (keep HR4.out (Below.refl _ w4).drew)
  have HBF : Hid (Below w.heap.size w w4.drew) := HB4.out.drew
  clear HV4 hV HPP HPS4 HR4 HB4
  refine wp_region_held_drew (S := fun W => W.cell? ⟨V, 0, none⟩ = some (.int .i64 p') ∧ W.cell? ⟨V, 1, none⟩ = some (.slice (some ⟨B, 0, none⟩) c' c')) (by kernel_rfl) ?_ (fun hHeld => ?_)
  · exact cells2 HVF.out
  refine take_yes (i := 0) (some 28) (.agg #[.int .i64 p', .slice (some ⟨B, 0, none⟩) c' c']) rfl rfl (by kernel_rfl) (by kernel_rfl) (by kernel_rfl) (fun _ _ _ h => h) (by rfl) ?_ (by assumption) ?_
  · intro W hSw
    obtain ⟨hz0, hz1⟩ := hSw
    go_simp
  simp only [Act.put, List.setIfInBounds_toArray, List.set_cons_zero, List.set_cons_succ]
  refine take_yes (i := 1) (some 29) (.agg #[.int .i64 p', .slice (some ⟨B, 0, none⟩) c' c']) rfl rfl (by kernel_rfl) (by kernel_rfl) (by kernel_rfl) (fun _ _ _ h => h) (by rfl) ?_ (by assumption) ?_
  · intro W hSw
    obtain ⟨hz0, hz1⟩ := hSw
    go_simp
  simp only [Act.put, List.setIfInBounds_toArray, List.set_cons_zero, List.set_cons_succ]
  refine take_yes (i := 2) (some 30) (.int .i64 s) rfl rfl (by kernel_rfl) (by kernel_rfl) (by kernel_rfl) (fun _ _ _ h => h) (by rfl) ?_ (by assumption) ?_
  · intro W hSw
    obtain ⟨hz0, hz1⟩ := hSw
    go_simp
  simp only [Act.put, List.setIfInBounds_toArray, List.set_cons_zero, List.set_cons_succ]
  refine take_yes (i := 4) (some 32) (.agg #[.int .i64 p', .slice (some ⟨B, 0, none⟩) c' c']) rfl rfl (by kernel_rfl) (by kernel_rfl) (by kernel_rfl) (fun _ _ _ h => h) (by rfl) ?_ (by assumption) ?_
  · intro W hSw
    obtain ⟨hz0, hz1⟩ := hSw
    go_simp
  simp only [Act.put, List.setIfInBounds_toArray, List.set_cons_zero, List.set_cons_succ]
  refine take_yes (i := 5) (some 33) (.int .i64 t) rfl rfl (by kernel_rfl) (by kernel_rfl) (by kernel_rfl) (fun _ _ _ h => h) (by rfl) ?_ (by assumption) ?_
  · intro W hSw
    obtain ⟨hz0, hz1⟩ := hSw
    go_simp
  simp only [Act.put, List.setIfInBounds_toArray, List.set_cons_zero, List.set_cons_succ]
  refine call_next (i := 3) (some 31) rfl rfl (by kernel_rfl) (by rfl) 50 _ _ _ rfl Try.func50 (by decide) rfl #[.agg #[.int .i64 p', .slice (some ⟨B, 0, none⟩) c' c'], .int .i64 s, .func (.func 51) #[] #[], .func (.func 52) #[] #[]] (mapw4 _ _ _ _ _ _ _ _ _ rfl rfl rfl rfl) _ (HWS.out _ HPF.out) ?_
  rintro e v1 ⟨rfl, hbl1⟩
  refine ⟨_, rfl, ?_, fun hHeld => ?_⟩
  · exact cells2 (keep HVF.out hbl1)
  simp only [Act.put, List.setIfInBounds_toArray, List.set_cons_zero, List.set_cons_succ]
  refine call_next (i := 6) (some 34) rfl rfl (by kernel_rfl) (by rfl) 50 _ _ _ rfl Try.func50 (by decide) rfl #[.agg #[.int .i64 p', .slice (some ⟨B, 0, none⟩) c' c'], .int .i64 t, .func (.func 52) #[] #[], .func (.func 51) #[] #[]] (mapw4 _ _ _ _ _ _ _ _ _ rfl rfl rfl rfl) _ (HWB.out _ (HPF.out.grow hbl1)) ?_
  rintro e v2 ⟨rfl, hbl2⟩
  refine ⟨_, rfl, ?_, fun hHeld => ?_⟩
  · exact cells2 (keep (keep HVF.out hbl1) hbl2)
  simp only [Act.put, List.setIfInBounds_toArray, List.set_cons_zero, List.set_cons_succ]
  refine take_yes (i := 7) (some 35) (.agg #[.int .i64 p', .slice (some ⟨B, 0, none⟩) c' c', .int .u16 (F : Int), .int .u16 (K : Int)]) rfl rfl (by kernel_rfl) (by kernel_rfl) (by kernel_rfl) (fun _ _ _ h => h) (by rfl) ?_ (by assumption) ?_
  · intro W hSw
    obtain ⟨hz0, hz1⟩ := hSw
    go_simp
  simp only [Act.put, List.setIfInBounds_toArray, List.set_cons_zero, List.set_cons_succ]
  refine store_next (i := 8) rfl rfl (by kernel_rfl) (by rfl) 72 _ _ rfl (w.heap.size + 1) #[.int .i64 p', .slice (some ⟨B, 0, none⟩) c' c', .int .u16 (F : Int), .int .u16 (K : Int)] rfl rfl 72 _ (keep (keep HRF.out hbl1) hbl2) Try.size72 rfl (by simp [Value.oneCell']) ?_ (fun hHeld => ?_)
  · exact cells2 ((setRow_otherW _ hVR _).trans (keep (keep HVF.out hbl1) hbl2))
  refine take_yes (i := 9) (some 7) (.bool true) rfl rfl (by kernel_rfl) (by kernel_rfl) (by kernel_rfl) (fun _ _ _ h => h) (by rfl) ?_ (by assumption) ?_
  · intro W hSw
    obtain ⟨hz0, hz1⟩ := hSw
    go_simp
  simp only [Act.put, List.setIfInBounds_toArray, List.set_cons_zero, List.set_cons_succ]
  refine wpAnyH_done (by kernel_rfl) ?_ _
  obtain ⟨⟨hr0, hr1, hr2, hr3⟩, _⟩ := cells4 (setRow_sameW (keep (keep HRF.out hbl1) hbl2) #[.int .i64 p', .slice (some ⟨B, 0, none⟩) c' c', .int .u16 (F : Int), .int .u16 (K : Int)])
  have HPX := hide (((HPF.out.grow hbl1).grow hbl2).setRowW (g := w.heap.size + 1) (by have := HBs.out; omega) #[.int .i64 p', .slice (some ⟨B, 0, none⟩) c' c', .int .u16 (F : Int), .int .u16 (K : Int)])
  have HBX := hide (below_setRow (HBF.out.trans ((hbl1.trans (hbl2.mono hbl1.size)).mono HBF.out.size)) (w.heap.size + 1) (by omega) #[.int .i64 p', .slice (some ⟨B, 0, none⟩) c' c', .int .u16 (F : Int), .int .u16 (K : Int)])
  clear hbl1 hbl2 HPF HBF hHeld HRF HVF
  go_wp2_with fail
  refine bodyPost_ret (v := .tuple #[.agg #[.int .i64 p', .slice (some ⟨B, 0, none⟩) c' c', .int .u16 (F : Int), .int .u16 (K : Int)], .bool true]) (by simp [results, Try.results30, go_sem, hr0, hr1, hr2, hr3]) rfl ?_
  exact ⟨_, _, _, _, F, K, by rw [HOK.out], fun _ => ⟨rfl, rfl, rfl, hF.out.symm, hK.out.symm, B, rfl, by have := HBs.out; omega, HPX.out⟩, HBX.out⟩
end Go.Proofs.Ytoijlepjnpdlkaa


/- l3Both and OnWay of the specification. -/
namespace Go.Proofs.Ytoijlepjnpdlkaa
open Go.RowKit
set_option maxRecDepth 10000

/-- How a function that tells numbers ends. -/
def Nums2End (f : Nat → Bool) (n : Nat) (w : World) (e : Ending) (w' : World) : Prop :=
  ∃ v m, e = .returned v ∧ w'.ownsRow w.heap.size 3 1 v m ((nums2 f n).map (Value.int .i64)) ∧ Below w.heap.size w w'

theorem own_grow2 {B : Nat} {w w' : World} {v : Value} {n : Nat} {l : List Value} (hown : w.ownsRow B 3 1 v n l) (hb : Below w.heap.size w w') : w'.ownsRow B 3 1 v n l := by
  refine ⟨hown.1, ?_⟩
  rcases hown.2 with h0 | ⟨g, cap, cur, e, h1, h2, h3⟩
  · exact .inl h0
  · exact .inr ⟨g, cap, cur, e, h1, (hb.block g (Array.getElem?_eq_some_iff.mp h2).1).trans h2, h3⟩

set_option maxHeartbeats 1000000 in
theorem both_any (F G : Nat → Bool) (b1 b2 n c1 m2 c2 : Nat) (w : World) (h1 : BoolRow w b1 n F) (h2 : BoolRow w b2 n G) (hm : m2 = n) (hn : n ≤ 24) :
    Calls Try.prog 46 #[.slice (some ⟨b1, 0, none⟩) n c1, .slice (some ⟨b2, 0, none⟩) m2 c2] w fun e w' => Nums2End (fun i => F i && G i) n w e w' := by
  subst hm
  have H1 := hide h1
  have H2 := hide h2
  obtain ⟨i0, hi, hz0, hz1, hz2⟩ := info_split2 Try.info3
  clear h1 h2
  go_enter Try.func46, Try.ntmps46
  go_wp2_with fail
  go_loopw [5, 9] (fun o i wr => ∃ k m : Nat, k ≤ m2 ∧ i = .int .i64 k ∧ Hid (m ≤ k) ∧ Hid (wr.ownsRow w.heap.size 3 1 o m ((nums2 (fun i => F i && G i) k).map (Value.int .i64))) ∧ Hid (Below w.heap.size w wr)) (fun _ i _ => m2 - (intOf i).toNat)
  case atStart => exact ⟨0, 0, Nat.zero_le _, rfl, Nat.le_refl _, World.ownsRow_nil _ _ _ _, Below.refl _ _⟩
  case round =>
    obtain ⟨k, m, hk, rfl, hmk, hown, hbw⟩ := hrel
    by_cases hlt : k < m2
    rotate_left
    · have hk' : k = m2 := by omega
      subst hk'
      go_wp2_with fail
      go_ret
      exact ⟨_, m, rfl, hown.out, hbw.out⟩
    obtain ⟨hc1, _⟩ := (H1.out.grow hbw.out).cell hlt
    obtain ⟨hc2, _⟩ := (H2.out.grow hbw.out).cell hlt
    cases hF : F k
    · have HN := hide (nums2_no (f := fun i => F i && G i) (k := k) (by simp [hF]))
      rw [hF] at hc1
      clear hF
      go_wp2_with fail
      go_roundw
      case rel => exact ⟨k + 1, m, by omega, by go_num, Nat.le_succ_of_le hmk.out, by rw [HN.out]; exact hown, hbw⟩
      case measure => simp [intOf]; omega
    cases hG : G k
    · have HN := hide (nums2_no (f := fun i => F i && G i) (k := k) (by simp [hG]))
      rw [hF] at hc1
      rw [hG] at hc2
      clear hF hG
      go_wp2_with fail
      go_roundw
      case rel => exact ⟨k + 1, m, by omega, by go_num, Nat.le_succ_of_le hmk.out, by rw [HN.out]; exact hown, hbw⟩
      case measure => simp [intOf]; omega
    have HN := hide (nums2_yes (f := fun i => F i && G i) (k := k) (by simp [hF, hG]))
    rw [hF] at hc1
    rw [hG] at hc2
    clear hF hG
    have hA2 := below_al wr (.cells #[.int .i64 (k : Int)] 3)
    have HO2 := hide (hown.out.alloc (.cells #[.int .i64 (k : Int)] 3))
    have HB2 := hide (hbw.out.trans (hA2.mono hbw.out.size))
    have HCE : Hid (∀ j u, ([.int .i64 (k : Int)] : List Value)[j]? = some u → (wr.alloc (.cells #[.int .i64 (k : Int)] 3)).cell? ((⟨wr.heap.size, 0, none⟩ : Addr).add j) = some u) := one_cell2 wr _
    have H1c : Hid (∀ u ∈ ([.int .i64 (k : Int)] : List Value), u.oneCell' = true) := fun u hu => by simp at hu; subst hu; rfl
    have HX := hide (show m + 1 ≤ maxLen by have := hmk.out; unfold maxLen; omega)
    have HY := hide (show (m + 1) * 8 ≤ 140737488355328 by have := hmk.out; omega)
    have HZ := hide HB2.out.size
    clear hA2 hown
    go_wp2_with (refine wpList_append_own _ rfl (.tmp 22) (.tmp 24) 42 rfl w.heap.size 3 i0 (.int .i64 0) 1 8 Try.underlying42 hi hz0 hz1 hz2 rfl (by decide) u5 m _ rfl HO2.out ⟨wr.heap.size, 0, none⟩ 1 1 [.int .i64 (k : Int)] rfl rfl HCE.out H1c.out HX.out HY.out HZ.out ?_; intro v' W' r1 r2 r3)
    have HR1 : Hid (W'.ownsRow w.heap.size 3 1 v' (m + 1) ((nums2 (fun i => F i && G i) (k + 1)).map (Value.int .i64))) := by
      show World.ownsRow _ _ _ _ _ _ _
      rw [HN.out, List.map_append]; exact r1
    have HB3 := hide (own_below2 HO2.out r2 HB2.out HB2.out.size (Nat.le_refl _))
    clear r1 r2 r3 hc1 hc2
    go_wp2_with fail
    go_roundw
    case rel => exact ⟨k + 1, m + 1, by omega, by go_num, Nat.succ_le_succ hmk.out, HR1, HB3⟩
    case measure => simp [intOf]; omega

/-- Which places and which transitions are on a way. -/
noncomputable def plB (n : Nat) (L : List (List Int)) (s t : Int) (i : Nat) : Bool := rchB (inL L) (outL L) n s i && rchB (outL L) (inL L) n t i
noncomputable def trB (n : Nat) (L : List (List Int)) (s t : Int) (k : Nat) : Bool := rchT (inL L) (outL L) n s k && rchT (outL L) (inL L) n t k

noncomputable def wayP (p : Int) (n : Nat) (L : List (List Int)) (s t : Int) : List Int := if wayOk p n L s t then nums2 (plB n L s t) p.toNat else []
noncomputable def wayT (p : Int) (n : Nat) (L : List (List Int)) (s t : Int) : List Int := if wayOk p n L s t then nums2 (trB n L s t) n else []

/-- How the specification's OnWay ends. -/
def OwEnd (g : Bool) (xs ys : List Int) (w : World) (e : Ending) (w' : World) : Prop :=
  ∃ a1 n1 c1 a2 n2 c2, e = .returned (.tuple #[.slice a1 n1 c1, .slice a2 n2 c2, .bool g]) ∧ Row w' a1 n1 xs ∧ Row w' a2 n2 ys ∧ Below w.heap.size w w'

theorem owEnd_no {p : Int} {n : Nat} {L : List (List Int)} {s t : Int} {w w' : World} (h : wayOk p n L s t = false) (hb : Below w.heap.size w w') :
    OwEnd (wayOk p n L s t) (wayP p n L s t) (wayT p n L s t) w (.returned (.tuple #[.slice none 0 0, .slice none 0 0, .bool false])) w' :=
  ⟨none, 0, 0, none, 0, 0, by rw [h], ⟨by unfold wayP; rw [h]; rfl, .inl rfl⟩, ⟨by unfold wayT; rw [h]; rfl, .inl rfl⟩, hb⟩

theorem own_row2 {B : Nat} {w : World} {v : Value} {n : Nat} {l : List Int} (hown : w.ownsRow B 3 1 v n (l.map (Value.int .i64))) : ∃ a c, v = .slice a n c ∧ Row w a n l := by
  obtain ⟨a, b, c, e, _, ho⟩ := own_ob2 hown
  exact ⟨a, c, e, ho.row⟩

theorem within_in {p n : Nat} {L : List (List Int)} (h : netOk (p : Int) n L = true) : Within (inL L) p n := fun _ hk x hx => (netOk_mem h hk).1 x hx
theorem within_out {p n : Nat} {L : List (List Int)} (h : netOk (p : Int) n L = true) : Within (outL L) p n := fun _ hk x hx => (netOk_mem h hk).2.1 x hx

set_option maxHeartbeats 4000000 in
theorem onWayS_any (p s t : Int) (a : Option Addr) (n c : Nat) (L : List (List Int)) (w : World) (h : Lists w a (3 * n) L) (hs : sizeN n L ≤ 1048576) :
    Calls Try.prog 25 #[.agg #[.int .i64 p, .slice a n c], .int .i64 s, .int .i64 t] w fun e w' => OwEnd (wayOk p n L s t) (wayP p n L s t) (wayT p n L s t) w e w' := by
  have hAl := below_al w (.cells #[.int .i64 p, .slice a n c] 30)
  have PAR := hide (heap_alloc_new w (.cells #[.int .i64 p, .slice a n c] 30))
  have HG := hide (goodNetS_any p a n c L _ (h.below hAl) hs)
  have HL := hide h
  have HB0 := hide hAl
  clear h hAl
  go_enter Try.func25, Try.ntmps25
  go_wp2_with fail
  refine HG.out.mono ?_
  rintro e w2 ⟨rfl, hb⟩
  have HB1 := hide (HB0.out.trans (hb.mono HB0.out.size))
  have PAR1 := hide (keep PAR.out hb)
  obtain ⟨hc0, hc1⟩ := cells2 PAR1.out
  clear HG HB0 PAR hb
  by_cases hg : netOk p n L = true
  rotate_left
  · have hg' : netOk p n L = false := by simpa using hg
    have HN := hide (owEnd_no (show wayOk p n L s t = false by unfold wayOk; rw [hg']; rfl) HB1.out)
    rw [hg']
    clear hg hg'
    go_wp2_with fail
    go_ret3
    exact HN.out
  rw [hg]
  have HG := hide hg
  obtain ⟨⟨hp1, hp2⟩, hn24, _⟩ := netOk_parts hg
  clear hg
  go_wp2_with fail
  refine (in_any _ _ _ _).mono ?_
  rintro e w3 ⟨rfl, hw3⟩
  subst hw3
  by_cases hq : inB s 0 (p - 1) = true
  rotate_left
  · have hq' : inB s 0 (p - 1) = false := by simpa using hq
    have HN := hide (owEnd_no (show wayOk p n L s t = false by unfold wayOk; rw [hq']; simp) HB1.out)
    rw [hq']
    clear hq hq'
    go_wp2_with fail
    go_ret3
    exact HN.out
  rw [hq]
  have HQ := hide hq
  clear hq
  go_wp2_with fail
  refine (in_any _ _ _ _).mono ?_
  rintro e w3 ⟨rfl, hw3⟩
  subst hw3
  by_cases hq : inB t 0 (p - 1) = true
  rotate_left
  · have hq' : inB t 0 (p - 1) = false := by simpa using hq
    have HN := hide (owEnd_no (show wayOk p n L s t = false by unfold wayOk; rw [hq']; simp) HB1.out)
    rw [hq']
    clear hq hq'
    go_wp2_with fail
    go_ret3
    exact HN.out
  rw [hq]
  have HQ2 := hide hq
  have HOK := hide (show wayOk p n L s t = true by unfold wayOk; rw [HG.out, HQ.out, HQ2.out]; rfl)
  clear hq
  have hs1 : 0 ≤ s ∧ s ≤ p - 1 := by simpa [inB] using HQ.out
  have ht1 : 0 ≤ t ∧ t ≤ p - 1 := by simpa [inB] using HQ2.out
  obtain ⟨P, rfl⟩ : ∃ P : Nat, p = (P : Int) := ⟨p.toNat, by omega⟩
  obtain ⟨S, rfl⟩ : ∃ P : Nat, s = (P : Int) := ⟨s.toNat, by omega⟩
  obtain ⟨T, rfl⟩ : ∃ P : Nat, t = (P : Int) := ⟨t.toNat, by omega⟩
  have HFW := hide (forward_any (inL L) (outL L) P S a n c L w3 (HL.out.below HB1.out) hn24 (by omega) (by omega) hs (within_in HG.out) (within_out HG.out) (fun _ => rfl) (fun _ => rfl))
  have HBK := hide (fun W (hW : Below w.heap.size w W) => back_any (outL L) (inL L) P T a n c L W (HL.out.below hW) hn24 (by omega) (by omega) hs (within_out HG.out) (within_in HG.out) (fun _ => rfl) (fun _ => rfl))
  clear hs1 ht1
  go_wp2_with fail
  refine HFW.out.mono ?_
  rintro e w4 ⟨b1, b2, rfl, hr1, hr2, hb4⟩
  have HB4 := hide (HB1.out.trans (hb4.mono HB1.out.size))
  have PAR4 := hide (keep PAR1.out hb4)
  have HR1 := hide hr1
  have HR2 := hide hr2
  obtain ⟨hc0, hc1⟩ := cells2 PAR4.out
  clear hb4 hr1 hr2 HB1 PAR1 HFW
  go_wp2_with fail
  refine (HBK.out _ HB4.out).mono ?_
  rintro e w5 ⟨b3, b4, rfl, hr3, hr4, hb5⟩
  have HB5 := hide (HB4.out.trans (hb5.mono HB4.out.size))
  have HB1 := hide (both_any _ _ b1 b3 P P P P w5 (HR1.out.grow hb5) hr3 rfl (by omega))
  have HB2 := hide (fun W (hW : Below w5.heap.size w5 W) => both_any _ _ b2 b4 n n n n W ((HR2.out.grow hb5).grow hW) (hr4.grow hW) rfl hn24)
  clear hb5 hr3 hr4 HB4 PAR4 HBK HR1 HR2 hc0 hc1
  go_wp2_with fail
  refine HB1.out.mono ?_
  rintro e w6 ⟨v6, m6, rfl, hown6, hb6⟩
  have HB6 := hide (HB5.out.trans (hb6.mono HB5.out.size))
  have HB7 := hide (HB2.out w6 hb6)
  obtain ⟨a6, c6, hv6, hr6⟩ := own_row2 hown6
  have HR6 := hide hr6
  subst hv6
  clear hown6 hb6 hr6 HB2 HB1 HB5
  go_wp2_with fail
  refine HB7.out.mono ?_
  rintro e w7 ⟨v7, m7, rfl, hown7, hb7⟩
  obtain ⟨a7, c7, hv7, hr7⟩ := own_row2 hown7
  subst hv7
  have HE : Hid (OwEnd (wayOk (P : Int) n L (S : Int) (T : Int)) (wayP (P : Int) n L (S : Int) (T : Int)) (wayT (P : Int) n L (S : Int) (T : Int)) w (.returned (.tuple #[.slice a6 m6 c6, .slice a7 m7 c7, .bool true])) w7) :=
    ⟨a6, m6, c6, a7, m7, c7, by rw [HOK.out], by unfold wayP; rw [HOK.out]; exact HR6.out.below hb7, by unfold wayT; rw [HOK.out]; exact hr7, HB6.out.trans (hb7.mono HB6.out.size)⟩
  clear hown7 hb7 hr7 HB7
  go_wp2_with fail
  go_ret3
  exact HE.out
end Go.Proofs.Ytoijlepjnpdlkaa
