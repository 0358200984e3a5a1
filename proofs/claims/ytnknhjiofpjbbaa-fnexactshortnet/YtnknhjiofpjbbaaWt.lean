/- l3Forward and l3Back of the specification. -/
import Derived.Test.YtnknhjiofpjbbaaWs
namespace Go.Proofs.Ytnknhjiofpjbbaa
open Go.RowKit
set_option maxRecDepth 10000

theorem ret_2b {b1 b2 p n : Nat} {F G : Nat → Bool} {w w' : World} (h1 : BoolRow w' b1 p F) (h2 : BoolRow w' b2 n G) (hb : Below w.heap.size w w') : FwEnd F G p n w (.returned (.tuple #[.slice (some ⟨b1, 0, none⟩) p p, .slice (some ⟨b2, 0, none⟩) n n])) w' :=
  ⟨b1, b2, rfl, h1, h2, hb⟩

def moreOf : Value → Nat | .bool true => 1 | _ => 0

theorem any_take {f : Nat → Bool} {xs : List Int} {k : Nat} {x : Int} (h : xs[k]? = some x) : (xs.take (k + 1)).any (fun x => f x.toNat) = ((xs.take k).any (fun x => f x.toNat) || f x.toNat) := by
  rw [List.take_add_one, h, List.any_append]; simp

set_option maxHeartbeats 8000000 in
theorem forward_any (A D : Nat → List Int) (p s : Nat) (a : Option Addr) (n c : Nat) (L : List (List Int)) (w : World) (h : Lists w a (3 * n) L) (hn : n ≤ 24) (hp : p ≤ 16) (hs : s < p) (hz : sizeN n L ≤ 1048576)
    (hA : Within A p n) (hD : Within D p n) (eA : ∀ k, A k = L.getD (3 * k) []) (eD : ∀ k, D k = L.getD (3 * k + 1) []) :
    Calls Try.prog 39 #[.agg #[.int .i64 (p : Int), .slice a n c], .int .i64 (s : Int)] w fun e w' => FwEnd (rchB A D n (s : Int)) (rchT A D n (s : Int)) p n w e w' := by
  have hmk1 := run_make_many (P := Try.prog) 68 4 _ 1 1 Try.underlying68 Try.info4 .i64 .i64 p (by omega) (by omega)
  have hmk2 := run_make_many (P := Try.prog) 68 4 _ 1 1 Try.underlying68 Try.info4 .i64 .i64 n (by omega) (by omega)
  simp only [Value.cells, Nat.mul_one] at hmk1 hmk2
  have HL := hide h
  have HA := hide hA
  have HD := hide hD
  have EA := hide eA
  have ED := hide eD
  have HI1 := hide (FwInv.start w p n c s a hs)
  have HM0 := hide (FwM.start (A := A) (D := D) (p := p) (n := n) (s := (s : Int)) (by omega))
  have hz' : n + sizeL L ≤ 1048576 := hz
  clear h hA hD eA eD hz
  have hat : (madeCells #[.bool false] p)[s]? = some (.bool false) := by simp [madeCells, hs, Nat.mod_one]
  go_enter Try.func39, Try.ntmps39
  go_wp2_with fail
  obtain ⟨V, hV⟩ : ∃ V, Hid (((w.alloc (.cells #[.int .i64 (p : Int), .slice a n c] 31)).alloc (.cells ((madeCells #[.bool false] p).setIfInBounds s (.bool true)) 4)).alloc (.cells (madeCells #[.bool false] n) 4) = V) := ⟨_, rfl⟩
  rw [hV.out] at HI1 ⊢
  clear hmk1 hmk2 hat hV
  go_loopw [8] (fun m wr => ∃ (b : Bool) (f g : Nat → Bool), m = .bool b ∧ Hid (FwInv w wr p a n c f g) ∧ Hid (FwM A D p n (s : Int) f g) ∧ Hid (b = false → ∀ k, k < n → Rest A f g k)) (fun m wr => 2 * (n - cntW wr (w.heap.size + 1 + 1) n) + moreOf m)
  case atStart => exact ⟨true, _, _, rfl, HI1, HM0, fun e => by simp at e⟩
  case round =>
    obtain ⟨b, f, g, rfl, hin, hm, hr⟩ := hrel
    clear HI1 HM0
    cases b
    · have HF := hide (hm.out.done HA.out HD.out ⟨by omega, by omega⟩ (hr.out rfl))
      have HE := hide (ret_2b (hin.out.pl.same HF.out.1) (hin.out.tr.same HF.out.2) hin.out.bel)
      go_wp2_with fail
      go_ret2
      exact HE.out
    have HCNT := hide (cntW_eq hin.out.tr)
    obtain ⟨hc0, hc1⟩ := cells2 hin.out.par
    generalize wr = v0 at *
    go_wp2_with fail
    clear hc0 hc1 hr
    go_loopw [8, 30] (fun m i wr => ∃ (b : Bool) (k : Nat) (f' g' : Nat → Bool), k ≤ n ∧ i = .int .i64 k ∧ m = .bool b ∧ Hid (FwInv w wr p a n c f' g') ∧ Hid (FwM A D p n (s : Int) f' g') ∧ Hid (b = false → cntB g n = cntB g' n ∧ ∀ j, j < k → Rest A f' g' j) ∧ Hid (b = true → cntB g n < cntB g' n)) (fun _ i _ => n - (intOf i).toNat)
    case atStart => exact ⟨false, 0, f, g, Nat.zero_le _, rfl, rfl, hin, hm, fun _ => ⟨rfl, fun j hj => absurd hj (by omega)⟩, fun e => by simp at e⟩
    case round =>
      clear hin hm
      obtain ⟨b, k, f', g', hk, rfl, rfl, hin, hm, hr0, hr1⟩ := hrel
      by_cases hlt : k < n
      rotate_left
      · have hk' : k = n := by omega
        subst hk'
        have HC2 := hide (cntW_eq hin.out.tr)
        have hle := cntB_le g' k
        have hle0 := cntB_le g k
        go_wp2_with fail
        go_roundw
        case rel => exact ⟨b, f', g', rfl, hin, hm, fun e => (hr0.out e).2⟩
        case measure =>
          rw [HCNT.out, HC2.out]
          cases b
          · have := (hr0.out rfl).1; simp [moreOf]; omega
          · have := hr1.out rfl; simp [moreOf]; omega
      obtain ⟨b0, off, a0, n0, c0, a1, n1, c1, a2, n2, c2, rfl, hb, hrg, m0, m1, m2, r0, r1, r2⟩ := HL.out.tri hlt
      obtain ⟨hw0, hw1, hw2⟩ := rangeAt_cells3 hrg
      have hc0 := (hin.out.bel.cell (p := ⟨b0, off + k * 3, none⟩) hb).trans hw0
      have hc1 := (hin.out.bel.cell (p := ⟨b0, off + k * 3 + 1, none⟩) hb).trans hw1
      have hc2 := (hin.out.bel.cell (p := ⟨b0, off + k * 3 + 2, none⟩) hb).trans hw2
      have hbw : b0 < wr.heap.size := Nat.lt_of_lt_of_le hb hin.out.bel.size
      have hvl := hin.out.tr.lt
      have hln := len_le L (3 * k)
      have hln2 := len_le L (3 * k + 1)
      rw [← EA.out k] at hln r0
      rw [← ED.out k] at hln2 r1
      have hA1 := below_al wr (.cells #[.slice a0 n0 c0, .slice a1 n1 c1, .slice a2 n2 c2] 56)
      have HI1 := hide (hin.out.grow hA1)
      have RA := hide r0
      have RD := hide r1
      have q0 : n0 ≤ 1048576 := by have := r0.1; omega
      have q1 : n1 ≤ 1048576 := by have := r1.1; omega
      have HX := hide (heap_alloc_new wr (.cells #[.slice a0 n0 c0, .slice a1 n1 c1, .slice a2 n2 c2] 56))
      clear hin hrg r0 r1 r2 m0 m1 m2 hln hln2 hA1 hb hw0 hw1 hw2
      generalize wr = v1 at *
      go_wp2_with fail
      obtain ⟨v2, hv2⟩ : ∃ v, Hid (v1.alloc (.cells #[.slice a0 n0 c0, .slice a1 n1 c1, .slice a2 n2 c2] 56) = v) := ⟨_, rfl⟩
      rw [hv2.out] at HI1 HX ⊢
      clear hv2 hc0 hc1 hc2
      go_loop [11, 38] (fun cm i => ∃ j : Nat, j ≤ n0 ∧ i = .int .i64 j ∧ cm = .bool (((A k).take j).any (fun x => f' x.toNat))) (fun _ i => n0 - (intOf i).toNat)
      case atStart => exact ⟨0, Nat.zero_le _, rfl, rfl⟩
      case round =>
        obtain ⟨j, hj, rfl, rfl⟩ := hrel
        by_cases hjl : j < n0
        · obtain ⟨b1, o1, x, rfl, hl1, hc1, H1⟩ := (RA.out.below HI1.out.bel).at hjl
          obtain ⟨hx0, hx1⟩ := HA.out k hlt x (List.mem_of_getElem? H1.out)
          obtain ⟨q, rfl⟩ : ∃ q : Nat, x = (q : Int) := ⟨x.toNat, by omega⟩
          have hqp : q < p := by omega
          obtain ⟨hcq, hfq⟩ := HI1.out.pl.cell hqp
          have HT := hide (any_take (f := f') H1.out)
          rw [Int.toNat_natCast] at HT
          clear H1 hx0 hx1 hfq
          cases hcm : ((A k).take j).any (fun x => f' x.toNat)
          · rw [hcm, Bool.false_or] at HT
            go_wp2_with fail
            go_round
            case rel => exact ⟨j + 1, by omega, by go_num, by rw [HT.out]⟩
            case measure => simp [intOf]; omega
          · rw [hcm, Bool.true_or] at HT
            go_wp2_with fail
            go_round
            case rel => exact ⟨j + 1, by omega, by go_num, by rw [HT.out]⟩
            case measure => simp [intOf]; omega
        have hj' : j = n0 := by omega
        subst hj'
        rw [List.take_of_length_le (by have := RA.out.1; omega)]
        obtain ⟨hck, hfk⟩ := HI1.out.tr.cell hlt
        have HI2 := hide (HI1.out.setT hlt)
        cases hcm : (A k).any (fun x => f' x.toNat)
        · have HRE : Hid (b = false → cntB g n = cntB g' n ∧ ∀ j, j < k + 1 → Rest A f' g' j) := fun e => ⟨(hr0.out e).1, fun j hj => if h : j < k then (hr0.out e).2 j h else (by rw [show j = k by omega]; exact .inr fun x hx => by have := List.any_eq_false.mp hcm x hx; simpa using this)⟩
          clear hr0 hcm HI2
          go_wp2_with fail
          go_roundw
          case rel => exact ⟨b, k + 1, f', g', by omega, by go_num, rfl, HI1, hm, HRE, hr1⟩
          case measure => simp [intOf]; omega
        cases hgk : g' k
        rotate_left
        · have HRE : Hid (b = false → cntB g n = cntB g' n ∧ ∀ j, j < k + 1 → Rest A f' g' j) := fun e => ⟨(hr0.out e).1, fun j hj => if h : j < k then (hr0.out e).2 j h else (by rw [show j = k by omega]; exact .inl hgk)⟩
          rw [hgk] at hck
          clear hr0 hcm HI2 hgk
          go_wp2_with fail
          go_roundw
          case rel => exact ⟨b, k + 1, f', g', by omega, by go_num, rfl, HI1, hm, HRE, hr1⟩
          case measure => simp [intOf]; omega
        have HM2 : Hid (FwM A D p n (s : Int) (markL f' (D k)) (markB g' k)) := by
          obtain ⟨x, hx, hf⟩ := List.any_eq_true.mp hcm
          exact hm.out.more HA.out HD.out hlt hx hf
        have HC2 : Hid (cntB g n < cntB (markB g' k) n) := by
          show _ < _
          have h1 := cntB_mark hlt hgk
          cases b
          · have := (hr0.out rfl).1; omega
          · have := hr1.out rfl; omega
        rw [hgk] at hck
        have hXc := cell_of_row v2 _ 0 _ _ _ HX.out
        have hXd := cell_of_row v2 _ 1 _ _ _ HX.out
        have hXe := cell_of_row v2 _ 2 _ _ _ HX.out
        simp at hXc hXd hXe
        clear hr0 hr1 hcm hgk hm HI1
        go_wp2_with fail
        clear hXc hXd hXe HX hck hfk
        go_loopw [64] (fun i wr => ∃ j : Nat, j ≤ n1 ∧ i = .int .i64 j ∧ Hid (FwInv w wr p (some ⟨b0, off, none⟩) n c (markL f' ((D k).take j)) (markB g' k))) (fun i _ => n1 - (intOf i).toNat)
        case atStart => exact ⟨0, Nat.zero_le _, rfl, by rw [List.take_zero, markL_nil]; exact HI2⟩
        case round =>
          obtain ⟨j, hj, rfl, hin⟩ := hrel
          by_cases hjl : j < n1
          · obtain ⟨b1, o1, x, rfl, hl1, hc1, H1⟩ := (RD.out.below hin.out.bel).at hjl
            obtain ⟨hx0, hx1⟩ := HD.out k hlt x (List.mem_of_getElem? H1.out)
            obtain ⟨q, rfl⟩ : ∃ q : Nat, x = (q : Int) := ⟨x.toNat, by omega⟩
            have hqp : q < p := by omega
            obtain ⟨hcq, hfq⟩ := hin.out.pl.cell hqp
            have HI3 := hide (hin.out.setP hqp)
            rw [markL_snoc, show (D k).take j ++ [(q : Int)] = (D k).take (j + 1) by rw [List.take_add_one, H1.out]; rfl] at HI3
            clear H1 hx0 hx1 hin
            go_wp2_with fail
            go_roundw
            case rel => exact ⟨j + 1, by omega, by go_num, HI3⟩
            case measure => simp [intOf]; omega
          have hj' : j = n1 := by omega
          subst hj'
          rw [List.take_of_length_le (by have := RD.out.1; omega)] at hin
          go_wp2_with fail
          go_roundw
          case rel => exact ⟨true, k + 1, _, _, by omega, by go_num, rfl, hin, HM2, (fun e => by simp at e), fun _ => HC2.out⟩
          case measure => simp [intOf]; omega

set_option maxHeartbeats 8000000 in
theorem back_any (A D : Nat → List Int) (p s : Nat) (a : Option Addr) (n c : Nat) (L : List (List Int)) (w : World) (h : Lists w a (3 * n) L) (hn : n ≤ 24) (hp : p ≤ 16) (hs : s < p) (hz : sizeN n L ≤ 1048576)
    (hA : Within A p n) (hD : Within D p n) (eA : ∀ k, A k = L.getD (3 * k + 1) []) (eD : ∀ k, D k = L.getD (3 * k) []) :
    Calls Try.prog 40 #[.agg #[.int .i64 (p : Int), .slice a n c], .int .i64 (s : Int)] w fun e w' => FwEnd (rchB A D n (s : Int)) (rchT A D n (s : Int)) p n w e w' := by
  have hmk1 := run_make_many (P := Try.prog) 68 4 _ 1 1 Try.underlying68 Try.info4 .i64 .i64 p (by omega) (by omega)
  have hmk2 := run_make_many (P := Try.prog) 68 4 _ 1 1 Try.underlying68 Try.info4 .i64 .i64 n (by omega) (by omega)
  simp only [Value.cells, Nat.mul_one] at hmk1 hmk2
  have HL := hide h
  have HA := hide hA
  have HD := hide hD
  have EA := hide eA
  have ED := hide eD
  have HI1 := hide (FwInv.start w p n c s a hs)
  have HM0 := hide (FwM.start (A := A) (D := D) (p := p) (n := n) (s := (s : Int)) (by omega))
  have hz' : n + sizeL L ≤ 1048576 := hz
  clear h hA hD eA eD hz
  have hat : (madeCells #[.bool false] p)[s]? = some (.bool false) := by simp [madeCells, hs, Nat.mod_one]
  go_enter Try.func40, Try.ntmps40
  go_wp2_with fail
  obtain ⟨V, hV⟩ : ∃ V, Hid (((w.alloc (.cells #[.int .i64 (p : Int), .slice a n c] 31)).alloc (.cells ((madeCells #[.bool false] p).setIfInBounds s (.bool true)) 4)).alloc (.cells (madeCells #[.bool false] n) 4) = V) := ⟨_, rfl⟩
  rw [hV.out] at HI1 ⊢
  clear hmk1 hmk2 hat hV
  go_loopw [8] (fun m wr => ∃ (b : Bool) (f g : Nat → Bool), m = .bool b ∧ Hid (FwInv w wr p a n c f g) ∧ Hid (FwM A D p n (s : Int) f g) ∧ Hid (b = false → ∀ k, k < n → Rest A f g k)) (fun m wr => 2 * (n - cntW wr (w.heap.size + 1 + 1) n) + moreOf m)
  case atStart => exact ⟨true, _, _, rfl, HI1, HM0, fun e => by simp at e⟩
  case round =>
    obtain ⟨b, f, g, rfl, hin, hm, hr⟩ := hrel
    clear HI1 HM0
    cases b
    · have HF := hide (hm.out.done HA.out HD.out ⟨by omega, by omega⟩ (hr.out rfl))
      have HE := hide (ret_2b (hin.out.pl.same HF.out.1) (hin.out.tr.same HF.out.2) hin.out.bel)
      go_wp2_with fail
      go_ret2
      exact HE.out
    have HCNT := hide (cntW_eq hin.out.tr)
    obtain ⟨hc0, hc1⟩ := cells2 hin.out.par
    generalize wr = v0 at *
    go_wp2_with fail
    clear hc0 hc1 hr
    go_loopw [8, 30] (fun m i wr => ∃ (b : Bool) (k : Nat) (f' g' : Nat → Bool), k ≤ n ∧ i = .int .i64 k ∧ m = .bool b ∧ Hid (FwInv w wr p a n c f' g') ∧ Hid (FwM A D p n (s : Int) f' g') ∧ Hid (b = false → cntB g n = cntB g' n ∧ ∀ j, j < k → Rest A f' g' j) ∧ Hid (b = true → cntB g n < cntB g' n)) (fun _ i _ => n - (intOf i).toNat)
    case atStart => exact ⟨false, 0, f, g, Nat.zero_le _, rfl, rfl, hin, hm, fun _ => ⟨rfl, fun j hj => absurd hj (by omega)⟩, fun e => by simp at e⟩
    case round =>
      clear hin hm
      obtain ⟨b, k, f', g', hk, rfl, rfl, hin, hm, hr0, hr1⟩ := hrel
      by_cases hlt : k < n
      rotate_left
      · have hk' : k = n := by omega
        subst hk'
        have HC2 := hide (cntW_eq hin.out.tr)
        have hle := cntB_le g' k
        have hle0 := cntB_le g k
        go_wp2_with fail
        go_roundw
        case rel => exact ⟨b, f', g', rfl, hin, hm, fun e => (hr0.out e).2⟩
        case measure =>
          rw [HCNT.out, HC2.out]
          cases b
          · have := (hr0.out rfl).1; simp [moreOf]; omega
          · have := hr1.out rfl; simp [moreOf]; omega
      obtain ⟨b0, off, a0, n0, c0, a1, n1, c1, a2, n2, c2, rfl, hb, hrg, m0, m1, m2, r0, r1, r2⟩ := HL.out.tri hlt
      obtain ⟨hw0, hw1, hw2⟩ := rangeAt_cells3 hrg
      have hc0 := (hin.out.bel.cell (p := ⟨b0, off + k * 3, none⟩) hb).trans hw0
      have hc1 := (hin.out.bel.cell (p := ⟨b0, off + k * 3 + 1, none⟩) hb).trans hw1
      have hc2 := (hin.out.bel.cell (p := ⟨b0, off + k * 3 + 2, none⟩) hb).trans hw2
      have hbw : b0 < wr.heap.size := Nat.lt_of_lt_of_le hb hin.out.bel.size
      have hvl := hin.out.tr.lt
      have hln := len_le L (3 * k + 1)
      have hln2 := len_le L (3 * k)
      rw [← EA.out k] at hln r1
      rw [← ED.out k] at hln2 r0
      have hA1 := below_al wr (.cells #[.slice a0 n0 c0, .slice a1 n1 c1, .slice a2 n2 c2] 56)
      have HI1 := hide (hin.out.grow hA1)
      have RA := hide r1
      have RD := hide r0
      have q0 : n1 ≤ 1048576 := by have := r1.1; omega
      have q1 : n0 ≤ 1048576 := by have := r0.1; omega
      have HX := hide (heap_alloc_new wr (.cells #[.slice a0 n0 c0, .slice a1 n1 c1, .slice a2 n2 c2] 56))
      clear hin hrg r0 r1 r2 m0 m1 m2 hln hln2 hA1 hb hw0 hw1 hw2
      generalize wr = v1 at *
      go_wp2_with fail
      obtain ⟨v2, hv2⟩ : ∃ v, Hid (v1.alloc (.cells #[.slice a0 n0 c0, .slice a1 n1 c1, .slice a2 n2 c2] 56) = v) := ⟨_, rfl⟩
      rw [hv2.out] at HI1 HX ⊢
      clear hv2 hc0 hc1 hc2
      go_loop [11, 38] (fun cm i => ∃ j : Nat, j ≤ n1 ∧ i = .int .i64 j ∧ cm = .bool (((A k).take j).any (fun x => f' x.toNat))) (fun _ i => n1 - (intOf i).toNat)
      case atStart => exact ⟨0, Nat.zero_le _, rfl, rfl⟩
      case round =>
        obtain ⟨j, hj, rfl, rfl⟩ := hrel
        by_cases hjl : j < n1
        · obtain ⟨b1, o1, x, rfl, hl1, hc1, H1⟩ := (RA.out.below HI1.out.bel).at hjl
          obtain ⟨hx0, hx1⟩ := HA.out k hlt x (List.mem_of_getElem? H1.out)
          obtain ⟨q, rfl⟩ : ∃ q : Nat, x = (q : Int) := ⟨x.toNat, by omega⟩
          have hqp : q < p := by omega
          obtain ⟨hcq, hfq⟩ := HI1.out.pl.cell hqp
          have HT := hide (any_take (f := f') H1.out)
          rw [Int.toNat_natCast] at HT
          clear H1 hx0 hx1 hfq
          cases hcm : ((A k).take j).any (fun x => f' x.toNat)
          · rw [hcm, Bool.false_or] at HT
            go_wp2_with fail
            go_round
            case rel => exact ⟨j + 1, by omega, by go_num, by rw [HT.out]⟩
            case measure => simp [intOf]; omega
          · rw [hcm, Bool.true_or] at HT
            go_wp2_with fail
            go_round
            case rel => exact ⟨j + 1, by omega, by go_num, by rw [HT.out]⟩
            case measure => simp [intOf]; omega
        have hj' : j = n1 := by omega
        subst hj'
        rw [List.take_of_length_le (by have := RA.out.1; omega)]
        obtain ⟨hck, hfk⟩ := HI1.out.tr.cell hlt
        have HI2 := hide (HI1.out.setT hlt)
        cases hcm : (A k).any (fun x => f' x.toNat)
        · have HRE : Hid (b = false → cntB g n = cntB g' n ∧ ∀ j, j < k + 1 → Rest A f' g' j) := fun e => ⟨(hr0.out e).1, fun j hj => if h : j < k then (hr0.out e).2 j h else (by rw [show j = k by omega]; exact .inr fun x hx => by have := List.any_eq_false.mp hcm x hx; simpa using this)⟩
          clear hr0 hcm HI2
          go_wp2_with fail
          go_roundw
          case rel => exact ⟨b, k + 1, f', g', by omega, by go_num, rfl, HI1, hm, HRE, hr1⟩
          case measure => simp [intOf]; omega
        cases hgk : g' k
        rotate_left
        · have HRE : Hid (b = false → cntB g n = cntB g' n ∧ ∀ j, j < k + 1 → Rest A f' g' j) := fun e => ⟨(hr0.out e).1, fun j hj => if h : j < k then (hr0.out e).2 j h else (by rw [show j = k by omega]; exact .inl hgk)⟩
          rw [hgk] at hck
          clear hr0 hcm HI2 hgk
          go_wp2_with fail
          go_roundw
          case rel => exact ⟨b, k + 1, f', g', by omega, by go_num, rfl, HI1, hm, HRE, hr1⟩
          case measure => simp [intOf]; omega
        have HM2 : Hid (FwM A D p n (s : Int) (markL f' (D k)) (markB g' k)) := by
          obtain ⟨x, hx, hf⟩ := List.any_eq_true.mp hcm
          exact hm.out.more HA.out HD.out hlt hx hf
        have HC2 : Hid (cntB g n < cntB (markB g' k) n) := by
          show _ < _
          have h1 := cntB_mark hlt hgk
          cases b
          · have := (hr0.out rfl).1; omega
          · have := hr1.out rfl; omega
        rw [hgk] at hck
        have hXc := cell_of_row v2 _ 0 _ _ _ HX.out
        have hXd := cell_of_row v2 _ 1 _ _ _ HX.out
        have hXe := cell_of_row v2 _ 2 _ _ _ HX.out
        simp at hXc hXd hXe
        clear hr0 hr1 hcm hgk hm HI1
        go_wp2_with fail
        clear hXc hXd hXe HX hck hfk
        go_loopw [64] (fun i wr => ∃ j : Nat, j ≤ n0 ∧ i = .int .i64 j ∧ Hid (FwInv w wr p (some ⟨b0, off, none⟩) n c (markL f' ((D k).take j)) (markB g' k))) (fun i _ => n0 - (intOf i).toNat)
        case atStart => exact ⟨0, Nat.zero_le _, rfl, by rw [List.take_zero, markL_nil]; exact HI2⟩
        case round =>
          obtain ⟨j, hj, rfl, hin⟩ := hrel
          by_cases hjl : j < n0
          · obtain ⟨b1, o1, x, rfl, hl1, hc1, H1⟩ := (RD.out.below hin.out.bel).at hjl
            obtain ⟨hx0, hx1⟩ := HD.out k hlt x (List.mem_of_getElem? H1.out)
            obtain ⟨q, rfl⟩ : ∃ q : Nat, x = (q : Int) := ⟨x.toNat, by omega⟩
            have hqp : q < p := by omega
            obtain ⟨hcq, hfq⟩ := hin.out.pl.cell hqp
            have HI3 := hide (hin.out.setP hqp)
            rw [markL_snoc, show (D k).take j ++ [(q : Int)] = (D k).take (j + 1) by rw [List.take_add_one, H1.out]; rfl] at HI3
            clear H1 hx0 hx1 hin
            go_wp2_with fail
            go_roundw
            case rel => exact ⟨j + 1, by omega, by go_num, HI3⟩
            case measure => simp [intOf]; omega
          have hj' : j = n0 := by omega
          subst hj'
          rw [List.take_of_length_le (by have := RD.out.1; omega)] at hin
          go_wp2_with fail
          go_roundw
          case rel => exact ⟨true, k + 1, _, _, by omega, by go_num, rfl, hin, HM2, (fun e => by simp at e), fun _ => HC2.out⟩
          case measure => simp [intOf]; omega

end Go.Proofs.Ytnknhjiofpjbbaa
