/- walk of the program: the places that can be come to, by a goto. -/
import Derived.Test.YtnknhjiofpjbbaaWm
import Derived.Test.YtnknhjiofpjbbaaOn
import Derived.WalkMore
import Derived.ScopeJumps
namespace Go.Proofs.Ytnknhjiofpjbbaa
open Go.RowKit
set_option maxRecDepth 10000

theorem PartS.atW {w : World} {B n k : Nat} {L : List (List Int)} (h : PartS w B (3 * n) (3 * n) L) (hk : k < n) :
    w.cell? ⟨B, k * 3, none⟩ = some (.int .u16 (maskL (L.getD (3 * k) []) : Int)) ∧ w.cell? ⟨B, k * 3 + 1, none⟩ = some (.int .u16 (maskL (L.getD (3 * k + 1) []) : Int)) ∧ w.cell? ⟨B, k * 3 + 2, none⟩ = some (.int .u16 (maskL (L.getD (3 * k + 2) []) : Int)) := by
  obtain ⟨C, h1, h2, h3⟩ := h
  refine ⟨?_, ?_, ?_⟩
  · rw [cell_of_row w B _ C _ _ h1, Nat.mul_comm]; exact h3 _ (by omega)
  · rw [cell_of_row w B _ C _ _ h1, Nat.mul_comm]; exact h3 _ (by omega)
  · rw [cell_of_row w B _ C _ _ h1, Nat.mul_comm]; exact h3 _ (by omega)

theorem ahead_any (s0 s1 s2 : Int) (w : World) :
    Calls Try.prog 71 #[.agg #[.int .u16 s0, .int .u16 s1, .int .u16 s2]] w fun e w' => e = .returned (.int .u16 s0) ∧ Below w.heap.size w w' := by
  go_enter Try.func71, Try.ntmps71
  go_wp2_with fail
  go_ret
  exact ⟨rfl, below_al _ _⟩

theorem behind_any (s0 s1 s2 : Int) (w : World) :
    Calls Try.prog 72 #[.agg #[.int .u16 s0, .int .u16 s1, .int .u16 s2]] w fun e w' => e = .returned (.int .u16 s1) ∧ Below w.heap.size w w' := by
  go_enter Try.func72, Try.ntmps72
  go_wp2_with fail
  go_ret
  exact ⟨rfl, below_al _ _⟩

theorem wp_scope_jumps2 {P : Program} {a : Act} {w : World} {Q : Exit → Act → World → Prop} {c rest : Code} (l : Nat) (J : Act → World → Prop) (μ : Act → World → Nat) (hf : findLabel c l = some (Code.skip.seq rest))
    (first : c.wp P (Exit.jump l J Q) a w)
    (pass : ∀ a w, J a w → rest.wp P (Exit.jump l (fun a' w' => J a' w' ∧ μ a' w' < μ a w) Q) a w) : (Code.scope c).wp P Q a w :=
  wp_scope_jumps l J μ hf first fun a w h => wp_seq (wp_skip (pass a w h))

theorem ret_u16 {a b : Nat} (h : a = b) : Ending.returned (.int .u16 (a : Int)) = .returned (.int .u16 (b : Int)) := by rw [h]

/-- What walk keeps in mind at the label. -/
structure WkInv (w wr : World) (p : Int) (B n m : Nat) (A D : Nat → List Int) (s : Int) : Prop where
  par : wr.heap[w.heap.size]? = some (.cells #[.int .i64 p, .slice (some ⟨B, 0, none⟩) n n] 60 (0, 0))
  bel : Below w.heap.size w wr
  come : Come A D n s m

set_option maxHeartbeats 4000000 in
theorem walkF_any (A D : Nat → List Int) (p s : Int) (B n : Nat) (L : List (List Int)) (w : World) (h : PartS w B (3 * n) (3 * n) L) (hn : n ≤ 24) (hs : 0 ≤ s ∧ s < 16)
    (hA : Small A n) (hD : Small D n) (eA : ∀ k, A k = L.getD (3 * k) []) (eD : ∀ k, D k = L.getD (3 * k + 1) []) :
    Calls Try.prog 70 #[.agg #[.int .i64 p, .slice (some ⟨B, 0, none⟩) n n], .int .i64 s, .func (.func 71) #[] #[], .func (.func 72) #[] #[]] w fun e w' => e = .returned (.int .u16 (rchM A D n s : Int)) ∧ Below w.heap.size w w' := by
  have HP := hide h
  have HA := hide hA
  have HD := hide hD
  have EA := hide eA
  have ED := hide eD
  have hs0 := hs.1
  have hs1 := hs.2
  clear h eA eD hA hD hs
  go_enter Try.func70, Try.ntmps70
  go_wp2_with fail
  refine (fun pass => wp_scope_jumps2 0 (fun a' w' => ∃ (m : Nat) (u5 u6 u7 u10 u11 u12 u13 u14 u15 u16 u17 u18 u19 u20 u21 u22 u23 u24 u25 u26 u27 u28 u29 u30 u31 u32 u33 u34 u35 u36 u37 u38 u39 u40 u41 : Value), a' = { tmps := #[.agg #[.int .i64 p, .slice (some ⟨B, 0, none⟩) n n], .int .i64 s, .func (.func 71) #[] #[], .func (.func 72) #[] #[], .pointer (some ⟨w.heap.size, 0, none⟩), u5, u6, u7, .int .u16 0, .int .u16 (m : Int), u10, u11, u12, u13, u14, u15, u16, u17, u18, u19, u20, u21, u22, u23, u24, u25, u26, u27, u28, u29, u30, u31, u32, u33, u34, u35, u36, u37, u38, u39, u40, u41], defers := [] } ∧ Hid (WkInv w w' p B n m A D s)) (fun a' _ => 65536 - (intOf (a'.tmps.getD 9 undef)).toNat) rfl ?_ pass) ?_
  · have HPAR := hide (heap_alloc_new w (.cells #[.int .i64 p, .slice (some ⟨B, 0, none⟩) n n] 60))
    have HB0 := hide (below_al w (.cells #[.int .i64 p, .slice (some ⟨B, 0, none⟩) n n] 60))
    have HC0 := hide (Come.start (A := A) (B := D) (n := n) ⟨hs0, hs1⟩)
    have HW : Hid (IntKind.u16.wrap (2 ^ s.toNat) = ((2 ^ s.toNat : Nat) : Int)) := by
      show _ = _
      rw [show ((2 : Int) ^ s.toNat) = ((2 ^ s.toNat : Nat) : Int) by simp]
      exact wraps_u16 _ (Int.natCast_nonneg _) (by exact_mod_cast HC0.out.lt)
    go_wp2_with fail
    go_step3
    rename_i K hK
    rw [HW.out]
    refine hK _ _ (Code.wp_mono ?_ (pass _ _ ⟨2 ^ s.toNat, _, _, _, _, _, _, _, _, _, _, _, _, _, _, _, _, _, _, _, _, _, _, _, _, _, _, _, _, _, _, _, _, _, _, _, rfl, ⟨HPAR.out, HB0.out, HC0.out⟩⟩))
    intro e a2 w2 hq
    cases e <;> first | exact hq | exact ⟨hq.1, hq.2.1⟩
  · rintro a' w' ⟨m, u5, u6, u7, u10, u11, u12, u13, u14, u15, u16, u17, u18, u19, u20, u21, u22, u23, u24, u25, u26, u27, u28, u29, u30, u31, u32, u33, u34, u35, u36, u37, u38, u39, u40, u41, rfl, hin⟩
    obtain ⟨hc0, hc1⟩ := cells2 hin.out.par
    have hm := hin.out.come.lt
    go_wp2_with fail
    clear hc0 hc1
    go_loopw [9, 17] (fun c i wr => ∃ k : Nat, k ≤ n ∧ i = .int .i64 k ∧ c = .int .u16 (m : Int) ∧ Hid (∀ j, j < k → Quiet A D j m) ∧ Hid (WkInv w wr p B n m A D s)) (fun _ i _ => n - (intOf i).toNat)
    case atStart => exact ⟨0, Nat.zero_le _, rfl, rfl, fun j hj => absurd hj (by omega), hin⟩
    case round =>
      clear hin
      obtain ⟨k, hk, rfl, rfl, hu, hin⟩ := hrel
      by_cases hlt : k < n
      rotate_left
      · have hk' : k = n := by omega
        subst hk'
        have HR := hide (rchM_eq HD.out ⟨hs0, hs1⟩ (hin.out.come.done HA.out HD.out hu.out))
        clear hm
        go_wp2_with fail
        simp only [Exit.jump]
        go_ret
        exact ⟨ret_u16 HR.out, hin.out.bel⟩
      obtain ⟨hc0, hc1, hc2⟩ := (HP.out.grow hin.out.bel).atW hlt
      have ea := EA.out k
      have ed := ED.out k
      have ha16 : maskL (A k) < 2 ^ 16 := maskL_lt _ fun x hx => (HA.out k hlt x hx).2
      have hd16 : maskL (D k) < 2 ^ 16 := maskL_lt _ fun x hx => (HD.out k hlt x hx).2
      have HQ := hide (fun (h : Quiet A D k m) (j : Nat) (hj : j < k + 1) => (if e : j < k then hu.out j e else (by rw [show j = k by omega]; exact h) : Quiet A D j m))
      have HMO := hide (fun (h : maskL (A k) &&& m ≠ 0) => hin.out.come.more HA.out HD.out hlt h)
      have HOR := hide (or_u16 m (maskL (D k)) hm hd16)
      unfold Quiet at HQ
      rw [ea] at HQ HMO ha16
      rw [ed] at HQ HMO hd16 HOR
      have HA1 := hide (below_al wr (.cells #[.int .u16 (maskL (L.getD (3 * k) []) : Int), .int .u16 (maskL (L.getD (3 * k + 1) []) : Int), .int .u16 (maskL (L.getD (3 * k + 2) []) : Int)] 92))
      have HPAR := hide hin.out.par
      have HB0 := hide hin.out.bel
      have HCO := hide hin.out.come
      clear hin hu ea ed
      generalize maskL (L.getD (3 * k) []) = s0 at *
      generalize maskL (L.getD (3 * k + 1) []) = s1 at *
      generalize maskL (L.getD (3 * k + 2) []) = s2 at *
      go_wp2_with fail
      refine (ahead_any _ _ _ _).mono ?_
      rintro e w1 ⟨rfl, hb⟩
      have HB1 := hide (HA1.out.trans (hb.mono HA1.out.size))
      have hX := keep (heap_alloc_new wr (.cells #[.int .u16 (s0 : Int), .int .u16 (s1 : Int), .int .u16 (s2 : Int)] 92)) hb
      have hx0 := cell_of_row w1 _ 0 _ _ _ hX
      have hx1 := cell_of_row w1 _ 1 _ _ _ hX
      have hx2 := cell_of_row w1 _ 2 _ _ _ hX
      simp at hx0 hx1 hx2
      have HX := hide hX
      clear hb HA1 hX hc0 hc1 hc2
      by_cases hz : s0 &&& m = 0
      · have hcd := meetW_no ha16 hm hz
        have HQ1 := hide (HQ.out (.inl hz))
        have HI : Hid (WkInv w w1 p B n m A D s) := ⟨keep HPAR.out HB1.out, HB0.out.trans (HB1.out.mono HB0.out.size), HCO.out⟩
        clear HQ HMO HOR HPAR HB0 HCO hz HX
        go_wp2_with fail
        go_roundw
        case rel => exact ⟨k + 1, by omega, by go_num, rfl, HQ1, HI⟩
        case measure => simp [intOf]; omega
      have hcd := meetW_yes ha16 hm hz
      have HZ : Hid (s0 &&& m ≠ 0) := hz
      clear hz
      go_wp2_with fail
      refine (behind_any _ _ _ _).mono ?_
      rintro e w2 ⟨rfl, hb⟩
      have HB2 := hide (HB1.out.trans (hb.mono HB1.out.size))
      have hX := keep HX.out hb
      have hx0 := cell_of_row w2 _ 0 _ _ _ hX
      have hx1 := cell_of_row w2 _ 1 _ _ _ hX
      have hx2 := cell_of_row w2 _ 2 _ _ _ hX
      simp at hx0 hx1 hx2
      clear hb hX HX HB1
      by_cases hy : s1 &&& m = s1
      · have hcd2 := lessW_no hy
        have HQ1 := hide (HQ.out (.inr hy))
        have HI : Hid (WkInv w w2 p B n m A D s) := ⟨keep HPAR.out HB2.out, HB0.out.trans (HB2.out.mono HB0.out.size), HCO.out⟩
        clear HQ HMO HOR HPAR HB0 HCO hy
        go_wp2_with fail
        go_roundw
        case rel => exact ⟨k + 1, by omega, by go_num, rfl, HQ1, HI⟩
        case measure => simp [intOf]; omega
      have hcd2 := lessW_yes hd16 hy
      have HMO1 := hide (HMO.out HZ.out)
      have HLE := hide (come_less HMO1.out.lt hy)
      clear hy HMO HQ
      go_wp2_with fail
      refine (behind_any _ _ _ _).mono ?_
      rintro e w3 ⟨rfl, hb⟩
      have HI : Hid (WkInv w w3 p B n (m ||| s1) A D s) := ⟨keep (keep HPAR.out HB2.out) hb, HB0.out.trans ((HB2.out.trans (hb.mono HB2.out.size)).mono HB0.out.size), HMO1.out⟩
      clear hb HB0 HPAR HB2 HCO
      go_wp2_with fail
      go_step3
      rw [HOR.out]
      refine ⟨rfl, ⟨m ||| s1, _, _, _, _, _, _, _, _, _, _, _, _, _, _, _, _, _, _, _, _, _, _, _, _, _, _, _, _, _, _, _, _, _, _, _, rfl, HI⟩, ?_⟩
      have := HLE.out
      simpa [intOf] using this

set_option maxHeartbeats 4000000 in
theorem walkB_any (A D : Nat → List Int) (p s : Int) (B n : Nat) (L : List (List Int)) (w : World) (h : PartS w B (3 * n) (3 * n) L) (hn : n ≤ 24) (hs : 0 ≤ s ∧ s < 16)
    (hA : Small A n) (hD : Small D n) (eA : ∀ k, A k = L.getD (3 * k + 1) []) (eD : ∀ k, D k = L.getD (3 * k) []) :
    Calls Try.prog 70 #[.agg #[.int .i64 p, .slice (some ⟨B, 0, none⟩) n n], .int .i64 s, .func (.func 72) #[] #[], .func (.func 71) #[] #[]] w fun e w' => e = .returned (.int .u16 (rchM A D n s : Int)) ∧ Below w.heap.size w w' := by
  have HP := hide h
  have HA := hide hA
  have HD := hide hD
  have EA := hide eA
  have ED := hide eD
  have hs0 := hs.1
  have hs1 := hs.2
  clear h eA eD hA hD hs
  go_enter Try.func70, Try.ntmps70
  go_wp2_with fail
  refine (fun pass => wp_scope_jumps2 0 (fun a' w' => ∃ (m : Nat) (u5 u6 u7 u10 u11 u12 u13 u14 u15 u16 u17 u18 u19 u20 u21 u22 u23 u24 u25 u26 u27 u28 u29 u30 u31 u32 u33 u34 u35 u36 u37 u38 u39 u40 u41 : Value), a' = { tmps := #[.agg #[.int .i64 p, .slice (some ⟨B, 0, none⟩) n n], .int .i64 s, .func (.func 72) #[] #[], .func (.func 71) #[] #[], .pointer (some ⟨w.heap.size, 0, none⟩), u5, u6, u7, .int .u16 0, .int .u16 (m : Int), u10, u11, u12, u13, u14, u15, u16, u17, u18, u19, u20, u21, u22, u23, u24, u25, u26, u27, u28, u29, u30, u31, u32, u33, u34, u35, u36, u37, u38, u39, u40, u41], defers := [] } ∧ Hid (WkInv w w' p B n m A D s)) (fun a' _ => 65536 - (intOf (a'.tmps.getD 9 undef)).toNat) rfl ?_ pass) ?_
  · have HPAR := hide (heap_alloc_new w (.cells #[.int .i64 p, .slice (some ⟨B, 0, none⟩) n n] 60))
    have HB0 := hide (below_al w (.cells #[.int .i64 p, .slice (some ⟨B, 0, none⟩) n n] 60))
    have HC0 := hide (Come.start (A := A) (B := D) (n := n) ⟨hs0, hs1⟩)
    have HW : Hid (IntKind.u16.wrap (2 ^ s.toNat) = ((2 ^ s.toNat : Nat) : Int)) := by
      show _ = _
      rw [show ((2 : Int) ^ s.toNat) = ((2 ^ s.toNat : Nat) : Int) by simp]
      exact wraps_u16 _ (Int.natCast_nonneg _) (by exact_mod_cast HC0.out.lt)
    go_wp2_with fail
    go_step3
    rename_i K hK
    rw [HW.out]
    refine hK _ _ (Code.wp_mono ?_ (pass _ _ ⟨2 ^ s.toNat, _, _, _, _, _, _, _, _, _, _, _, _, _, _, _, _, _, _, _, _, _, _, _, _, _, _, _, _, _, _, _, _, _, _, _, rfl, ⟨HPAR.out, HB0.out, HC0.out⟩⟩))
    intro e a2 w2 hq
    cases e <;> first | exact hq | exact ⟨hq.1, hq.2.1⟩
  · rintro a' w' ⟨m, u5, u6, u7, u10, u11, u12, u13, u14, u15, u16, u17, u18, u19, u20, u21, u22, u23, u24, u25, u26, u27, u28, u29, u30, u31, u32, u33, u34, u35, u36, u37, u38, u39, u40, u41, rfl, hin⟩
    obtain ⟨hc0, hc1⟩ := cells2 hin.out.par
    have hm := hin.out.come.lt
    go_wp2_with fail
    clear hc0 hc1
    go_loopw [9, 17] (fun c i wr => ∃ k : Nat, k ≤ n ∧ i = .int .i64 k ∧ c = .int .u16 (m : Int) ∧ Hid (∀ j, j < k → Quiet A D j m) ∧ Hid (WkInv w wr p B n m A D s)) (fun _ i _ => n - (intOf i).toNat)
    case atStart => exact ⟨0, Nat.zero_le _, rfl, rfl, fun j hj => absurd hj (by omega), hin⟩
    case round =>
      clear hin
      obtain ⟨k, hk, rfl, rfl, hu, hin⟩ := hrel
      by_cases hlt : k < n
      rotate_left
      · have hk' : k = n := by omega
        subst hk'
        have HR := hide (rchM_eq HD.out ⟨hs0, hs1⟩ (hin.out.come.done HA.out HD.out hu.out))
        clear hm
        go_wp2_with fail
        simp only [Exit.jump]
        go_ret
        exact ⟨ret_u16 HR.out, hin.out.bel⟩
      obtain ⟨hc0, hc1, hc2⟩ := (HP.out.grow hin.out.bel).atW hlt
      have ea := EA.out k
      have ed := ED.out k
      have ha16 : maskL (A k) < 2 ^ 16 := maskL_lt _ fun x hx => (HA.out k hlt x hx).2
      have hd16 : maskL (D k) < 2 ^ 16 := maskL_lt _ fun x hx => (HD.out k hlt x hx).2
      have HQ := hide (fun (h : Quiet A D k m) (j : Nat) (hj : j < k + 1) => (if e : j < k then hu.out j e else (by rw [show j = k by omega]; exact h) : Quiet A D j m))
      have HMO := hide (fun (h : maskL (A k) &&& m ≠ 0) => hin.out.come.more HA.out HD.out hlt h)
      have HOR := hide (or_u16 m (maskL (D k)) hm hd16)
      unfold Quiet at HQ
      rw [ea] at HQ HMO ha16
      rw [ed] at HQ HMO hd16 HOR
      have HA1 := hide (below_al wr (.cells #[.int .u16 (maskL (L.getD (3 * k) []) : Int), .int .u16 (maskL (L.getD (3 * k + 1) []) : Int), .int .u16 (maskL (L.getD (3 * k + 2) []) : Int)] 92))
      have HPAR := hide hin.out.par
      have HB0 := hide hin.out.bel
      have HCO := hide hin.out.come
      clear hin hu ea ed
      generalize maskL (L.getD (3 * k) []) = s0 at *
      generalize maskL (L.getD (3 * k + 1) []) = s1 at *
      generalize maskL (L.getD (3 * k + 2) []) = s2 at *
      go_wp2_with fail
      refine (behind_any _ _ _ _).mono ?_
      rintro e w1 ⟨rfl, hb⟩
      have HB1 := hide (HA1.out.trans (hb.mono HA1.out.size))
      have hX := keep (heap_alloc_new wr (.cells #[.int .u16 (s0 : Int), .int .u16 (s1 : Int), .int .u16 (s2 : Int)] 92)) hb
      have hx0 := cell_of_row w1 _ 0 _ _ _ hX
      have hx1 := cell_of_row w1 _ 1 _ _ _ hX
      have hx2 := cell_of_row w1 _ 2 _ _ _ hX
      simp at hx0 hx1 hx2
      have HX := hide hX
      clear hb HA1 hX hc0 hc1 hc2
      by_cases hz : s1 &&& m = 0
      · have hcd := meetW_no ha16 hm hz
        have HQ1 := hide (HQ.out (.inl hz))
        have HI : Hid (WkInv w w1 p B n m A D s) := ⟨keep HPAR.out HB1.out, HB0.out.trans (HB1.out.mono HB0.out.size), HCO.out⟩
        clear HQ HMO HOR HPAR HB0 HCO hz HX
        go_wp2_with fail
        go_roundw
        case rel => exact ⟨k + 1, by omega, by go_num, rfl, HQ1, HI⟩
        case measure => simp [intOf]; omega
      have hcd := meetW_yes ha16 hm hz
      have HZ : Hid (s1 &&& m ≠ 0) := hz
      clear hz
      go_wp2_with fail
      refine (ahead_any _ _ _ _).mono ?_
      rintro e w2 ⟨rfl, hb⟩
      have HB2 := hide (HB1.out.trans (hb.mono HB1.out.size))
      have hX := keep HX.out hb
      have hx0 := cell_of_row w2 _ 0 _ _ _ hX
      have hx1 := cell_of_row w2 _ 1 _ _ _ hX
      have hx2 := cell_of_row w2 _ 2 _ _ _ hX
      simp at hx0 hx1 hx2
      clear hb hX HX HB1
      by_cases hy : s0 &&& m = s0
      · have hcd2 := lessW_no hy
        have HQ1 := hide (HQ.out (.inr hy))
        have HI : Hid (WkInv w w2 p B n m A D s) := ⟨keep HPAR.out HB2.out, HB0.out.trans (HB2.out.mono HB0.out.size), HCO.out⟩
        clear HQ HMO HOR HPAR HB0 HCO hy
        go_wp2_with fail
        go_roundw
        case rel => exact ⟨k + 1, by omega, by go_num, rfl, HQ1, HI⟩
        case measure => simp [intOf]; omega
      have hcd2 := lessW_yes hd16 hy
      have HMO1 := hide (HMO.out HZ.out)
      have HLE := hide (come_less HMO1.out.lt hy)
      clear hy HMO HQ
      go_wp2_with fail
      refine (ahead_any _ _ _ _).mono ?_
      rintro e w3 ⟨rfl, hb⟩
      have HI : Hid (WkInv w w3 p B n (m ||| s0) A D s) := ⟨keep (keep HPAR.out HB2.out) hb, HB0.out.trans ((HB2.out.trans (hb.mono HB2.out.size)).mono HB0.out.size), HMO1.out⟩
      clear hb HB0 HPAR HB2 HCO
      go_wp2_with fail
      go_step3
      rw [HOR.out]
      refine ⟨rfl, ⟨m ||| s0, _, _, _, _, _, _, _, _, _, _, _, _, _, _, _, _, _, _, _, _, _, _, _, _, _, _, _, _, _, _, _, _, _, _, _, rfl, HI⟩, ?_⟩
      have := HLE.out
      simpa [intOf] using this

end Go.Proofs.Ytnknhjiofpjbbaa
