/- Proved: for every input, in whatever memory, the law FnExactChainFlows returns true and leaves its arguments as they were; no condition. -/
import Derived.Test.YtoijlepjnpdlkaaP14
import Derived.WalkKit
import Derived.ProofKit
import Derived.OpenShut
import Derived.ShutString
import Derived.ChangeOld
import Derived.Below
namespace Go.Proofs.Ytoijlepjnpdlkaa.fnExactChainFlows
open Go.ChangeShapes Go.WideShapes Go.ChangeAt Go.RowKit
open Go.ChangeMaps (open_string shut_string)
set_option linter.unusedVariables false

theorem own : ownKnob Try.prog.godebug = none := by kernel_rfl
theorem laidOut : laidOutB Try.prog = true := by kernel_rfl

set_option maxRecDepth 20000 in
set_option maxHeartbeats 8000000 in
theorem walk (p : Int) (a : Option Addr) (n c : Nat) (f t : Int) (L : List (List Int)) (p' : Int) (a' : Option Addr) (n' c' : Nat) (f' t' : Int) (L' : List (List Int)) (w : World) (hn : n ≤ maxLen) (hr : Lists w a (3 * n) L) (hn' : n' ≤ maxLen) (hr' : Lists w a' (3 * n') L') :
    Calls Try.prog 3 #[.agg #[.int .i64 p, .slice a n c, .int .i64 f, .int .i64 t], .agg #[.int .i64 p', .slice a' n' c', .int .i64 f', .int .i64 t']] w fun e w' => e = .returned (.bool true) ∧ Below w.heap.size w w' := by
  have HR := hide hr
  have HL := hide hr.1
  have HR' := hide hr'
  have HL' := hide hr'.1
  clear hr hr'
  have y1 : (w.alloc (.cells #[.int .i64 p, .slice a n c, .int .i64 f, .int .i64 t] 26)).heap.size = w.heap.size + 1 := by simp
  have HB0 := hide (below_two w (.cells #[.int .i64 p, .slice a n c, .int .i64 f, .int .i64 t] 26) (.cells #[.int .i64 p', .slice a' n' c', .int .i64 f', .int .i64 t'] 26))
  have PAR := hide (keep (heap_alloc_new w (.cells #[.int .i64 p, .slice a n c, .int .i64 f, .int .i64 t] 26)) (below_al _ (.cells #[.int .i64 p', .slice a' n' c', .int .i64 f', .int .i64 t'] 26)))
  have QAR := hide (heap_alloc_new (w.alloc (.cells #[.int .i64 p, .slice a n c, .int .i64 f, .int .i64 t] 26)) (.cells #[.int .i64 p', .slice a' n' c', .int .i64 f', .int .i64 t'] 26))
  rw [y1] at QAR
  clear y1
  go_enter Try.func3, Try.ntmps3
  go_wp2_with fail
  refine (szFlow_any _ _ _ _ _ _ L _ (HR.out.below HB0.out) hn).mono ?_
  rintro e w1 ⟨rfl, hb⟩
  have HB1 := hide (HB0.out.trans (hb.mono HB0.out.size))
  have PAR1 := hide (keep PAR.out hb)
  have QAR1 := hide (keep QAR.out hb)
  clear HB0 PAR QAR hb
  by_cases hg : leftOf 1048576 (sizeN n L) < 0
  · generalize leftOf 1048576 (sizeN n L) = l0 at *
    go_wp2_with fail
    go_ret
    exact ⟨rfl, HB1.out⟩
  have HS : Hid (sizeN n L ≤ 1048576) := by have := (leftOf_pos hg).1; show _ ≤ _; omega
  have hl1 : leftOf 1048576 (sizeN n L) ≤ 1048576 := by have := leftOf_pos hg; omega
  have HP := hide (leftOf_pos hg)
  generalize leftOf 1048576 (sizeN n L) = l0 at *
  obtain ⟨hc0, hc1, hc2, hc3⟩ := cells4c QAR1.out
  have hlt := row_lt QAR1.out
  go_wp2_with fail
  refine (szFlowL_any _ _ _ _ _ _ L' _ _ (HR'.out.below HB1.out) hn' (by omega) hl1).mono ?_
  rintro e w2 ⟨rfl, hb⟩
  have HB2 := hide (HB1.out.trans (hb.mono HB1.out.size))
  have PAR2 := hide (keep PAR1.out hb)
  have QAR2 := hide (keep QAR1.out hb)
  clear HB1 PAR1 QAR1 hb hc0 hc1 hc2 hc3 hlt
  by_cases hg' : leftOf l0 (sizeN n' L') < 0
  · generalize leftOf l0 (sizeN n' L') = l1 at *
    go_wp2_with fail
    go_ret
    exact ⟨rfl, HB2.out⟩
  have HS' : Hid (sizeN n' L' ≤ 1048576) := by have := (leftOf_pos hg').1; show _ ≤ _; omega
  generalize leftOf l0 (sizeN n' L') = l1 at *
  have hn20 : n ≤ 1048576 := by have := HS.out; unfold sizeN at this; omega
  have hn20' : n' ≤ 1048576 := by have := HS'.out; unfold sizeN at this; omega
  have HCN : Hid (cntF (fun j => L.getD j []) (3 * n) ≤ 1048576) := by show _ ≤ _; rw [cntF_all HL.out]; have := HS.out; unfold sizeN at this; omega
  have HCN' : Hid (cntF (fun j => L'.getD j []) (3 * n') ≤ 1048576) := by show _ ≤ _; rw [cntF_all HL'.out]; have := HS'.out; unfold sizeN at this; omega
  obtain ⟨g, P, S, T, N, K, HK, hN20, HSP, HIM⟩ := chain_pack p f t p' f' t' n n' L L' HS.out HS'.out HL.out HL'.out
  have hne : ∀ b : Bool, (b != b) = false := by simp
  clear HP hl1 hg
  -- the specification's answer
  obtain ⟨hc0, hc1, hc2, hc3⟩ := cells4c PAR2.out
  obtain ⟨hd0, hd1, hd2, hd3⟩ := cells4c QAR2.out
  have hlt := row_lt PAR2.out
  have hlq := row_lt QAR2.out
  have PARd : Hid (w2.drew.heap[w.heap.size]? = some (.cells #[.int .i64 p, .slice a n c, .int .i64 f, .int .i64 t] 26 (0, 0))) := PAR2.out
  have QARd : Hid (w2.drew.heap[w.heap.size + 1]? = some (.cells #[.int .i64 p', .slice a' n' c', .int .i64 f', .int .i64 t'] 26 (0, 0))) := QAR2.out
  have HBd := hide HB2.out.drew
  have PARe : Hid ((w2.alloc (.cells #[.int .i64 0, .slice none 0 0, .int .i64 0, .int .i64 0] 32)).drew.heap[w.heap.size]? = some (.cells #[.int .i64 p, .slice a n c, .int .i64 f, .int .i64 t] 26 (0, 0))) := keep PAR2.out (below_al w2 _).drew
  have QARe : Hid ((w2.alloc (.cells #[.int .i64 0, .slice none 0 0, .int .i64 0, .int .i64 0] 32)).drew.heap[w.heap.size + 1]? = some (.cells #[.int .i64 p', .slice a' n' c', .int .i64 f', .int .i64 t'] 26 (0, 0))) := keep QAR2.out (below_al w2 _).drew
  have HBe : Hid (Below w.heap.size w (w2.alloc (.cells #[.int .i64 0, .slice none 0 0, .int .i64 0, .int .i64 0] 32)).drew) := (HB2.out.trans ((below_al w2 _).mono HB2.out.size)).drew
  have HZe : Hid ((w2.alloc (.cells #[.int .i64 0, .slice none 0 0, .int .i64 0, .int .i64 0] 32)).drew.heap[w2.heap.size]? = some (.cells #[.int .i64 0, .slice none 0 0, .int .i64 0, .int .i64 0] 32 (0, 0))) := heap_alloc_new w2 _
  go_upto_region 8 with fail
  go_cut [6, 7] from 27 to 118 (fun s6 s7 u => ∃ aw cw bw, s6 = .pointer (some ⟨bw, 0, none⟩) ∧ s7 = .bool g ∧ Hid (Below w.heap.size w u) ∧ Hid (u.heap[w.heap.size]? = some (.cells #[.int .i64 p, .slice a n c, .int .i64 f, .int .i64 t] 26 (0, 0))) ∧ Hid (u.heap[w.heap.size + 1]? = some (.cells #[.int .i64 p', .slice a' n' c', .int .i64 f', .int .i64 t'] 26 (0, 0))) ∧ Hid (u.heap[bw]? = some (.cells #[.int .i64 P, .slice aw N cw, .int .i64 S, .int .i64 T] 32 (0, 0))) ∧ Hid (Lists u aw (3 * N) K))
  case first =>
    go_region_held3 (fun W => W.cell? ⟨w.heap.size, 0, none⟩ = some (.int .i64 p) ∧ W.cell? ⟨w.heap.size, 1, none⟩ = some (.slice a n c) ∧ W.cell? ⟨w.heap.size, 2, none⟩ = some (.int .i64 f) ∧ W.cell? ⟨w.heap.size, 3, none⟩ = some (.int .i64 t) ∧ W.cell? ⟨w.heap.size + 1, 0, none⟩ = some (.int .i64 p') ∧ W.cell? ⟨w.heap.size + 1, 1, none⟩ = some (.slice a' n' c') ∧ W.cell? ⟨w.heap.size + 1, 2, none⟩ = some (.int .i64 f') ∧ W.cell? ⟨w.heap.size + 1, 3, none⟩ = some (.int .i64 t')) (first | (with_reducible exact held8 PARd.out QARd.out) | (with_reducible exact held8 PARe.out QARe.out) | (with_reducible exact held8 PARa.out QARa.out) | (with_reducible exact held8 PARb.out QARb.out) | (with_reducible exact held8 PARc.out QARc.out) | (with_reducible exact held8 (keep PARd.out (below_al _ _)) (keep QARd.out (below_al _ _))) | (with_reducible exact held8 (keep PARa.out (below_al _ _)) (keep QARa.out (below_al _ _))) | (with_reducible exact held8 (keep PARb.out (below_al _ _)) (keep QARb.out (below_al _ _))) | (with_reducible exact held8 (keep PARc.out (below_al _ _)) (keep QARc.out (below_al _ _))) | (with_reducible exact held8 ((set4_far (Nat.ne_of_lt HQz.out) _ _ _ _).trans PARc.out) ((set4_far (Nat.ne_of_lt HQy.out) _ _ _ _).trans QARc.out)) | (exact held8 ((set4_far (Nat.ne_of_lt hlt) _ _ _ _).trans PARc.out) ((set4_far (Nat.ne_of_lt hlq) _ _ _ _).trans QARc.out)))
      (first
        | (go_at_call_of 6 (Value.slice a n c)
           refine (toFlow_any p f t a n c L _ ?_ HS.out).mono ?_
           (first | (with_reducible exact HR.out.below HBd.out) | (with_reducible exact HR.out.below HBe.out))
           rintro e w3 ⟨B3, rfl, hB3, hp3, hb3⟩
           (first | (with_reducible (have PARa := hide (keep PARd.out hb3); have QARa := hide (keep QARd.out hb3); have HBa := hide (HBd.out.trans (hb3.mono HBd.out.size)))) | (with_reducible (have PARa := hide (keep PARe.out hb3); have QARa := hide (keep QARe.out hb3); have HBa := hide (HBe.out.trans (hb3.mono HBe.out.size)); have HZa := hide (keep HZe.out hb3); have HQz := hide hlt; have HQy := hide hlq)))
           have HFa := hide (hp3.lists HL.out HS.out)
           clear hp3 hb3)
        | (go_at_call_of 6 (Value.slice a' n' c')
           refine (toFlow_any p' f' t' a' n' c' L' _ ?_ HS'.out).mono ?_
           (first | (with_reducible exact HR'.out.below HBa.out) | (with_reducible exact HR'.out.below (HBa.out.trans ((below_al _ _).mono HBa.out.size))))
           rintro e w4 ⟨B4, rfl, hB4, hp4, hb4⟩
           (first | (with_reducible (have PARb := hide (keep PARa.out hb4); have QARb := hide (keep QARa.out hb4); have HBb := hide (HBa.out.trans (hb4.mono HBa.out.size)); have HFb := hide (HFa.out.below hb4); try have HZb := hide (keep HZa.out hb4))) | (with_reducible (have PARb := hide (keep (keep PARa.out (below_al _ _)) hb4); have QARb := hide (keep (keep QARa.out (below_al _ _)) hb4); have HBb := hide ((HBa.out.trans ((below_al _ _).mono HBa.out.size)).trans (hb4.mono (HBa.out.trans ((below_al _ _).mono HBa.out.size)).size)); have HZb := hide (keep (heap_alloc_new _ _) hb4); have HQz := hide (row_lt PARa.out); have HQy := hide (row_lt QARa.out); have HFb := hide ((HFa.out.below (below_al _ _)).below hb4))))
           have HGb := hide (hp4.lists HL'.out HS'.out)
           clear hp4 hb4)
        | (go_at_call 5
           refine (HSP.out _ _ _ _ _ ?_ ?_).mono ?_
           (first | (with_reducible exact HFb.out) | (with_reducible exact HFb.out.below (below_al _ _)))
           (first | (with_reducible exact HGb.out) | (with_reducible exact HGb.out.below (below_al _ _)))
           rintro e w5 ⟨aw, cw, rfl, hlw, hb5⟩
           (first | (with_reducible (have PARc := hide (keep PARb.out hb5); have QARc := hide (keep QARb.out hb5); have HBc := hide (HBb.out.trans (hb5.mono HBb.out.size)); try have HZc := hide (keep HZb.out hb5))) | (with_reducible (have PARc := hide (keep (keep PARb.out (below_al _ _)) hb5); have QARc := hide (keep (keep QARb.out (below_al _ _)) hb5); have HBc := hide ((HBb.out.trans ((below_al _ _).mono HBb.out.size)).trans (hb5.mono (HBb.out.trans ((below_al _ _).mono HBb.out.size)).size)); have HZc := hide (keep (heap_alloc_new _ _) hb5); have HQz := hide (row_lt PARb.out); have HQy := hide (row_lt QARb.out))))
           have HFc := hide hlw
           (first | have HQx := hide (row_lt HZb.out) | have HQx := hide (row_lt (heap_alloc_new w4 (.cells #[.int .i64 0, .slice none 0 0, .int .i64 0, .int .i64 0] 32))))
           (try (have HZO := open4 HZc.out; obtain ⟨⟨z0, z1, z2, z3⟩, z4, z5, z6, z7⟩ := HZO))
           clear hlw hb5))
    all_goals (go_wp2_with fail; go_meet)
    all_goals first
      | exact ⟨aw, cw, _, rfl, rfl, set4_below HBc.out (Nat.le_of_lt HQz.out) _ _ _ _, (set4_far (Nat.ne_of_lt HQz.out) _ _ _ _).trans PARc.out, (set4_far (Nat.ne_of_lt HQy.out) _ _ _ _).trans QARc.out, set4 HZc.out _ _ _ _, triOr_lists (triOr_set4 HFc.out HQx.out _ _ _ _) HK.out.1 HK.out.2.1⟩
      | exact ⟨aw, cw, _, rfl, rfl, HBc.out.trans ((below_al _ _).mono HBc.out.size), keep PARc.out (below_al _ _), keep QARc.out (below_al _ _), heap_alloc_new _ _, (triOr_lists HFc.out HK.out.1 HK.out.2.1).below (below_al _ _)⟩
  case rest =>
  rename World => u
  obtain ⟨aw, cw, bw, rfl, rfl, HBU, PARU, QARU, W0U, HWU⟩ := hcut
  clear PAR2 QAR2 HB2 hc0 hc1 hc2 hc3 hd0 hd1 hd2 hd3 hlt hlq PARd QARd HBd PARe QARe HBe HZe HSP w2 w1
  obtain ⟨hc0, hc1, hc2, hc3⟩ := cells4c PARU.out
  have hlt := row_lt PARU.out
  have hwu := HBU.out.size
  have hbw := row_lt W0U.out
  have hqu := row_lt QARU.out
  go_wp2_with fail
  refine (toFlow_any _ _ _ _ _ _ L _ (HR.out.below HBU.out) HS.out).mono ?_
  rintro e w4 ⟨B, rfl, hB, hp4, hb⟩
  have hPF := hp4.bound
  have hz4 := hb.size
  have hBl : B < w4.heap.size := by obtain ⟨C, f, q1, _⟩ := hPF; exact (Array.getElem?_eq_some_iff.mp q1).1
  have hA := below_al w4 (.cells #[.int .i64 p, .slice (some ⟨B, 0, none⟩) n n, .int .i64 f, .int .i64 t] 32)
  have HB5 := hide ((HBU.out.trans (hb.mono HBU.out.size)).trans (hA.mono (by omega)))
  have HU5 := hide (hb.trans (hA.mono hb.size))
  have PAR5 := hide (keep (keep PARU.out hb) hA)
  have QAR5 := hide (keep (keep QARU.out hb) hA)
  have HX5 := hide (heap_alloc_new w4 (.cells #[.int .i64 p, .slice (some ⟨B, 0, none⟩) n n, .int .i64 f, .int .i64 t] 32))
  have HN5 := hide (hPF.grow hA)
  have hs5 : (w4.alloc (.cells #[.int .i64 p, .slice (some ⟨B, 0, none⟩) n n, .int .i64 f, .int .i64 t] 32)).heap.size = w4.heap.size + 1 := by simp
  obtain ⟨hd0, hd1, hd2, hd3⟩ := cells4c QAR5.out
  clear hb hp4 hPF hA hc0 hc1 hc2 hc3 hlt
  go_wp2_with fail
  generalize w4.alloc (.cells #[.int .i64 p, .slice (some ⟨B, 0, none⟩) n n, .int .i64 f, .int .i64 t] 32) = w5 at *
  generalize w4.heap.size = bx at *
  clear w4 hd0 hd1 hd2 hd3
  have hbx := row_lt HX5.out
  refine (toFlow_any _ _ _ _ _ _ L' _ (HR'.out.below HB5.out) HS'.out).mono ?_
  rintro e w6 ⟨D, rfl, hD, hp6, hb⟩
  have hPF := hp6.bound
  have hz6 := hb.size
  have hDl : D < w6.heap.size := by obtain ⟨C, f, q1, _⟩ := hPF; exact (Array.getElem?_eq_some_iff.mp q1).1
  have hA := below_al w6 (.cells #[.int .i64 p', .slice (some ⟨D, 0, none⟩) n' n', .int .i64 f', .int .i64 t'] 32)
  have hb7 := hb.trans (hA.mono hb.size)
  have HB7 := hide (HB5.out.trans (hb7.mono HB5.out.size))
  have HU7 := hide (HU5.out.trans (hb7.mono HU5.out.size))
  have PAR7 := hide (keep PAR5.out hb7)
  have QAR7 := hide (keep QAR5.out hb7)
  have HX7 := hide (keep HX5.out hb7)
  have HN7 := hide (HN5.out.grow hb7)
  have HY7 := hide (heap_alloc_new w6 (.cells #[.int .i64 p', .slice (some ⟨D, 0, none⟩) n' n', .int .i64 f', .int .i64 t'] 32))
  have HM7 := hide (hPF.grow hA)
  have hs7 : (w6.alloc (.cells #[.int .i64 p', .slice (some ⟨D, 0, none⟩) n' n', .int .i64 f', .int .i64 t'] 32)).heap.size = w6.heap.size + 1 := by simp
  obtain ⟨hc0, hc1, hc2, hc3⟩ := cells4c HX7.out
  obtain ⟨hd0, hd1, hd2, hd3⟩ := cells4c HY7.out
  have hlx := row_lt HX7.out
  clear hb hp6 hPF hA hb7 HB5 HU5 PAR5 QAR5 HX5 HN5
  go_wp2_with fail
  generalize w6.alloc (.cells #[.int .i64 p', .slice (some ⟨D, 0, none⟩) n' n', .int .i64 f', .int .i64 t'] 32) = w7 at *
  generalize w6.heap.size = bz at *
  clear w6 hc0 hc1 hc2 hc3 hd0 hd1 hd2 hd3 hlx
  refine (HIM.out _ _ _ _ _ (HN7.out.lists HL.out HS.out) (HM7.out.lists HL'.out HS'.out)).mono ?_
  rintro e w8 ⟨ag, Bg, lo, hig, cg, rfl, hng, hBg, hlo, hhig, hlo2, hb⟩
  have hA := below_al w8 (.cells #[.int .i64 P, .slice ag N cg, .int .i64 S, .int .i64 T] 32)
  have hb8 := hb.trans (hA.mono hb.size)
  have hz8 := hb.size
  have ST := hide (Sc.mk (HB7.out.trans (hb8.mono HB7.out.size)) (HU7.out.trans (hb8.mono HU7.out.size)) (keep PAR7.out hb8) (keep QAR7.out hb8) (keep HX7.out hb8) (keep HY7.out hb8) (HN7.out.grow hb8) (HM7.out.grow hb8) (heap_alloc_new w8 (.cells #[.int .i64 P, .slice ag N cg, .int .i64 S, .int .i64 T] 32)) (hng.growX hA) ⟨by omega, hB, Nat.le_refl _, by omega, Nat.le_refl _, by omega, by omega, hhig, hBl, hDl, by omega⟩)
  obtain ⟨hw0, hw1, hw2, hw3⟩ := cells4c (keep (keep W0U.out HU7.out) hb)
  have hlw := row_lt (keep (keep W0U.out HU7.out) hb)
  clear hb hA hb8 HB7 HU7 PAR7 QAR7 HX7 HY7 HN7 HM7 hng
  go_wp2_with fail
  generalize w8.alloc (.cells #[.int .i64 P, .slice ag N cg, .int .i64 S, .int .i64 T] 32) = w9 at *
  generalize w8.heap.size = bg at *
  clear hw0 hw1 hw2 hw3 hlw w8
  -- the answer against the specification's
  refine (eqFlow_any P S T ag aw N cg cw K _ (ST.out.gn.lists HK.out.1 HK.out.2.1) (HWU.out.below ST.out.mid) HK.out.2.1).mono ?_
  rintro e w10 ⟨rfl, hb⟩
  have ST2 := hide (ST.out.grow hb)
  clear ST hb
  -- the first flow as it was
  obtain ⟨hc0, hc1, hc2, hc3⟩ := cells4c ST2.out.par
  obtain ⟨hd0, hd1, hd2, hd3⟩ := cells4c ST2.out.x0
  have hlt := row_lt ST2.out.par
  have hlx := row_lt ST2.out.x0
  go_upto_region 14 with fail
  go_cut [58] from 54 to 118 (fun s58 wx => s58 = .bool false ∧ Hid (Sc w u wx #[.int .i64 p, .slice a n c, .int .i64 f, .int .i64 t] #[.int .i64 p', .slice a' n' c', .int .i64 f', .int .i64 t'] #[.int .i64 p, .slice (some ⟨B, 0, none⟩) n n, .int .i64 f, .int .i64 t] #[.int .i64 p', .slice (some ⟨D, 0, none⟩) n' n', .int .i64 f', .int .i64 t'] n B bx bx n' D bz bz (fun j => L.getD j []) (fun j => L'.getD j []) #[.int .i64 P, .slice ag N cg, .int .i64 S, .int .i64 T] ag Bg lo hig N bg (fun j => K.getD j [])))
  case first =>
    have HT := hide (toFlow_any p f t a n c L (w10.drewN 1) ((HR.out.below ST2.out.old).below (below_drewN' _ _)) HS.out)
    go_region_with (first
      | (go_at_call 6
         refine HT.out.mono ?_
         rintro e w11 ⟨B9, rfl, hB9, hp9, hb⟩
         have ST := hide (ST2.out.grow ((below_drewN' w10 1).trans hb))
         have HM9 := hide (hp9.lists HL.out HS.out)
         have HL9 := hide (ST.out.net.lists HL.out HS.out)
         obtain ⟨he0, he1, he2, he3⟩ := cells4c ST.out.x0
         clear hb hp9 hB9)
      | (go_at_call 8
         refine (eqFlow_any _ _ _ _ _ _ _ _ L _ HL9.out HM9.out HS.out).mono ?_
         rintro e w12 ⟨rfl, hb⟩
         have ST3 := hide (ST.out.grow hb)
         clear hb))
    all_goals (go_wp2_with fail; go_meet; exact ⟨rfl, ST3⟩)
  case rest =>
  clear ST2 hc0 hc1 hc2 hc3 hd0 hd1 hd2 hd3 hlt hlx w10
  rename World => w13
  obtain ⟨rfl, ST2⟩ := hcut
  -- the second flow as it was
  obtain ⟨hc0, hc1, hc2, hc3⟩ := cells4c ST2.out.qar
  obtain ⟨hd0, hd1, hd2, hd3⟩ := cells4c ST2.out.y0
  have hlt := row_lt ST2.out.qar
  have hlx := row_lt ST2.out.y0
  go_upto_region 16 with fail
  go_cut [63] from 54 to 118 (fun s63 wx => s63 = .bool false ∧ Hid (Sc w u wx #[.int .i64 p, .slice a n c, .int .i64 f, .int .i64 t] #[.int .i64 p', .slice a' n' c', .int .i64 f', .int .i64 t'] #[.int .i64 p, .slice (some ⟨B, 0, none⟩) n n, .int .i64 f, .int .i64 t] #[.int .i64 p', .slice (some ⟨D, 0, none⟩) n' n', .int .i64 f', .int .i64 t'] n B bx bx n' D bz bz (fun j => L.getD j []) (fun j => L'.getD j []) #[.int .i64 P, .slice ag N cg, .int .i64 S, .int .i64 T] ag Bg lo hig N bg (fun j => K.getD j [])))
  case first =>
    have HT := hide (toFlow_any p' f' t' a' n' c' L' (w13.drewN 1) ((HR'.out.below ST2.out.old).below (below_drewN' _ _)) HS'.out)
    go_region_with (first
      | (go_at_call 6
         refine HT.out.mono ?_
         rintro e w11 ⟨B9, rfl, hB9, hp9, hb⟩
         have ST := hide (ST2.out.grow ((below_drewN' w13 1).trans hb))
         have HM9 := hide (hp9.lists HL'.out HS'.out)
         have HL9 := hide (ST.out.net2.lists HL'.out HS'.out)
         obtain ⟨he0, he1, he2, he3⟩ := cells4c ST.out.y0
         clear hb hp9 hB9)
      | (go_at_call 8
         refine (eqFlow_any _ _ _ _ _ _ _ _ L' _ HL9.out HM9.out HS'.out).mono ?_
         rintro e w12 ⟨rfl, hb⟩
         have ST3 := hide (ST.out.grow hb)
         clear hb))
    all_goals (go_wp2_with fail; go_meet; exact ⟨rfl, ST3⟩)
  case rest =>
  clear ST2 hc0 hc1 hc2 hc3 hd0 hd1 hd2 hd3 hlt hlx w13
  rename World => w13
  obtain ⟨rfl, ST3⟩ := hcut
  -- the arguments are marked
  obtain ⟨hd0, hd1, hd2, hd3⟩ := cells4c ST3.out.x0
  go_wp2_with fail
  refine (markFlow_any p f t B bx n n 1 44 _ _ ST3.out.net HCN.out hn20 (by omega)).mono ?_
  rintro e w14 ⟨rfl, hm1, hk1⟩
  have ST := hide (ST3.out.markN hm1 hk1)
  have hcn := HCN.out
  obtain ⟨k1, hk1'⟩ : ∃ k1 : Nat, Hid (1 + cntF (fun j => L.getD j []) (3 * n) = k1) := ⟨_, rfl⟩
  have hk1n : k1 ≤ 1048577 := by have := hk1'.out; omega
  rw [hk1'.out]
  clear ST3 hm1 hk1 hd0 hd1 hd2 hd3 hcn
  obtain ⟨hd0, hd1, hd2, hd3⟩ := cells4c ST.out.y0
  go_wp2_with fail
  refine (markFlow_any p' f' t' D bz n' n' k1 44 _ _ ST.out.net2 HCN'.out hn20' (by omega)).mono ?_
  rintro e w15 ⟨rfl, hm1, hk1⟩
  have ST2 := hide (ST.out.markM hm1 hk1)
  obtain ⟨k2, hk2'⟩ : ∃ k2 : Nat, Hid (k1 + cntF (fun j => L'.getD j []) (3 * n') = k2) := ⟨_, rfl⟩
  rw [hk2'.out]
  clear ST hm1 hk1 hd0 hd1 hd2 hd3
  have hpos : (0 : Int) ≤ (k2 : Int) := by omega
  obtain ⟨hg0, hg1, hg2, hg3⟩ := cells4c ST2.out.g0
  obtain ⟨hw0, hw1, hw2, hw3⟩ := cells4c (keep W0U.out ST2.out.mid)
  have hlw := row_lt (keep W0U.out ST2.out.mid)
  go_wp2_with fail
  refine (eqFlow_any P S T ag aw N cg cw K _ (ST2.out.gn.lists HK.out.1 HK.out.2.1) (HWU.out.below ST2.out.mid) HK.out.2.1).mono ?_
  rintro e w16 ⟨rfl, hb⟩
  have ST := hide (ST2.out.grow hb)
  clear ST2 hb hg0 hg1 hg2 hg3 hw0 hw1 hw2 hw3 hlw
  -- the answer is marked
  obtain ⟨hg0, hg1, hg2, hg3⟩ := cells4c ST.out.g0
  go_wp2_with fail
  refine (markFlowG_any P S T ag Bg lo hig N cg 1 _ _ ST.out.gn (by have h1 := ST.out.mid.size; have h2 := row_lt ST.out.y0; have h3 := row_lt ST.out.g0; omega) HK.out.2.2 hN20 (by omega)).mono ?_
  rintro e w17 ⟨rfl, hm1, hk1⟩
  have ST2 := hide (ST.out.markG hm1 hk1)
  obtain ⟨k3, hk3'⟩ : ∃ k3 : Nat, Hid (1 + cntF (fun j => K.getD j []) (3 * N) = k3) := ⟨_, rfl⟩
  rw [hk3'.out]
  clear ST hm1 hk1 hg0 hg1 hg2 hg3
  have hpos2 : (0 : Int) ≤ (k3 : Int) := by omega
  have hnq : ((k3 : Int) != (k3 : Int)) = false := by simp
  obtain ⟨hg0, hg1, hg2, hg3⟩ := cells4c ST2.out.g0
  go_wp2_with fail
  refine (heldFlowG_any P S T ag Bg lo hig N cg 1 (fun j => K.getD j []) _ ST2.out.gn HK.out.2.2 hN20 (by omega)).mono ?_
  rintro e w18 ⟨rfl, hb⟩
  rw [hk3'.out]
  have ST := hide (ST2.out.grow hb)
  clear ST2 hb hg0 hg1 hg2 hg3
  -- the second call
  have PAR2 := hide ST.out.par
  have QAR2 := hide ST.out.qar
  have HB2 := hide ST.out.old
  have hlt := row_lt PAR2.out
  have hlq := row_lt QAR2.out
  have PARd : Hid (w18.drew.heap[w.heap.size]? = some (.cells #[.int .i64 p, .slice a n c, .int .i64 f, .int .i64 t] 26 (0, 0))) := PAR2.out
  have QARd : Hid (w18.drew.heap[w.heap.size + 1]? = some (.cells #[.int .i64 p', .slice a' n' c', .int .i64 f', .int .i64 t'] 26 (0, 0))) := QAR2.out
  have HBd := hide HB2.out.drew
  have HVd : Hid (Below w18.heap.size w18 w18.drew) := (Below.refl _ w18).drew
  have PARe : Hid ((w18.alloc (.cells #[.int .i64 0, .slice none 0 0, .int .i64 0, .int .i64 0] 32)).drew.heap[w.heap.size]? = some (.cells #[.int .i64 p, .slice a n c, .int .i64 f, .int .i64 t] 26 (0, 0))) := keep PAR2.out (below_al w18 _).drew
  have QARe : Hid ((w18.alloc (.cells #[.int .i64 0, .slice none 0 0, .int .i64 0, .int .i64 0] 32)).drew.heap[w.heap.size + 1]? = some (.cells #[.int .i64 p', .slice a' n' c', .int .i64 f', .int .i64 t'] 26 (0, 0))) := keep QAR2.out (below_al w18 _).drew
  have HBe : Hid (Below w.heap.size w (w18.alloc (.cells #[.int .i64 0, .slice none 0 0, .int .i64 0, .int .i64 0] 32)).drew) := (HB2.out.trans ((below_al w18 _).mono HB2.out.size)).drew
  have HVe : Hid (Below w18.heap.size w18 (w18.alloc (.cells #[.int .i64 0, .slice none 0 0, .int .i64 0, .int .i64 0] 32)).drew) := (below_al w18 _).drew
  have HZe : Hid ((w18.alloc (.cells #[.int .i64 0, .slice none 0 0, .int .i64 0, .int .i64 0] 32)).drew.heap[w18.heap.size]? = some (.cells #[.int .i64 0, .slice none 0 0, .int .i64 0, .int .i64 0] 32 (0, 0))) := heap_alloc_new w18 _
  go_upto_region 31 with fail
  go_cut [15, 16] from 94 to 118 (fun s15 s16 wx => ∃ ah ch bh, s15 = .pointer (some ⟨bh, 0, none⟩) ∧ s16 = .bool g ∧ Hid (Sc w u wx #[.int .i64 p, .slice a n c, .int .i64 f, .int .i64 t] #[.int .i64 p', .slice a' n' c', .int .i64 f', .int .i64 t'] #[.int .i64 p, .slice (some ⟨B, 0, none⟩) n n, .int .i64 f, .int .i64 t] #[.int .i64 p', .slice (some ⟨D, 0, none⟩) n' n', .int .i64 f', .int .i64 t'] n B bx bx n' D bz bz (markedF 1 (fun j => L.getD j []) (3 * n)) (markedF k1 (fun j => L'.getD j []) (3 * n')) #[.int .i64 P, .slice ag N cg, .int .i64 S, .int .i64 T] ag Bg lo hig N bg (markedF 1 (fun j => K.getD j []) (3 * N))) ∧ Hid (wx.heap[bh]? = some (.cells #[.int .i64 P, .slice ah N ch, .int .i64 S, .int .i64 T] 32 (0, 0))) ∧ Hid (Lists wx ah (3 * N) K))
  case first =>
    go_region_held3 (fun W => W.cell? ⟨w.heap.size, 0, none⟩ = some (.int .i64 p) ∧ W.cell? ⟨w.heap.size, 1, none⟩ = some (.slice a n c) ∧ W.cell? ⟨w.heap.size, 2, none⟩ = some (.int .i64 f) ∧ W.cell? ⟨w.heap.size, 3, none⟩ = some (.int .i64 t) ∧ W.cell? ⟨w.heap.size + 1, 0, none⟩ = some (.int .i64 p') ∧ W.cell? ⟨w.heap.size + 1, 1, none⟩ = some (.slice a' n' c') ∧ W.cell? ⟨w.heap.size + 1, 2, none⟩ = some (.int .i64 f') ∧ W.cell? ⟨w.heap.size + 1, 3, none⟩ = some (.int .i64 t')) (first | (with_reducible exact held8 PARd.out QARd.out) | (with_reducible exact held8 PARe.out QARe.out) | (with_reducible exact held8 PARa.out QARa.out) | (with_reducible exact held8 PARb.out QARb.out) | (with_reducible exact held8 PARc.out QARc.out) | (with_reducible exact held8 (keep PARd.out (below_al _ _)) (keep QARd.out (below_al _ _))) | (with_reducible exact held8 (keep PARa.out (below_al _ _)) (keep QARa.out (below_al _ _))) | (with_reducible exact held8 (keep PARb.out (below_al _ _)) (keep QARb.out (below_al _ _))) | (with_reducible exact held8 (keep PARc.out (below_al _ _)) (keep QARc.out (below_al _ _))) | (with_reducible exact held8 ((set4_far (Nat.ne_of_lt HQz.out) _ _ _ _).trans PARc.out) ((set4_far (Nat.ne_of_lt HQy.out) _ _ _ _).trans QARc.out)) | (exact held8 ((set4_far (Nat.ne_of_lt hlt) _ _ _ _).trans PARc.out) ((set4_far (Nat.ne_of_lt hlq) _ _ _ _).trans QARc.out)))
      (first
        | (go_at_call_of 6 (Value.slice a n c)
           refine (toFlow_any p f t a n c L _ ?_ HS.out).mono ?_
           (first | (with_reducible exact HR.out.below HBd.out) | (with_reducible exact HR.out.below HBe.out))
           rintro e w3 ⟨B3, rfl, hB3, hp3, hb3⟩
           (first | (with_reducible (have PARa := hide (keep PARd.out hb3); have QARa := hide (keep QARd.out hb3); have HBa := hide (HBd.out.trans (hb3.mono HBd.out.size)); have HVa := hide (HVd.out.trans (hb3.mono HVd.out.size)))) | (with_reducible (have PARa := hide (keep PARe.out hb3); have QARa := hide (keep QARe.out hb3); have HBa := hide (HBe.out.trans (hb3.mono HBe.out.size)); have HVa := hide (HVe.out.trans (hb3.mono HVe.out.size)); have HZa := hide (keep HZe.out hb3); have HQz := hide hlt; have HQy := hide hlq; have HQw := hide (Nat.le_refl w18.heap.size))))
           have HFa := hide (hp3.lists HL.out HS.out)
           clear hp3 hb3)
        | (go_at_call_of 6 (Value.slice a' n' c')
           refine (toFlow_any p' f' t' a' n' c' L' _ ?_ HS'.out).mono ?_
           (first | (with_reducible exact HR'.out.below HBa.out) | (with_reducible exact HR'.out.below (HBa.out.trans ((below_al _ _).mono HBa.out.size))))
           rintro e w4 ⟨B4, rfl, hB4, hp4, hb4⟩
           (first | (with_reducible (have PARb := hide (keep PARa.out hb4); have QARb := hide (keep QARa.out hb4); have HBb := hide (HBa.out.trans (hb4.mono HBa.out.size)); have HVb := hide (HVa.out.trans (hb4.mono HVa.out.size)); have HFb := hide (HFa.out.below hb4); try have HZb := hide (keep HZa.out hb4))) | (with_reducible (have PARb := hide (keep (keep PARa.out (below_al _ _)) hb4); have QARb := hide (keep (keep QARa.out (below_al _ _)) hb4); have HBb := hide ((HBa.out.trans ((below_al _ _).mono HBa.out.size)).trans (hb4.mono (HBa.out.trans ((below_al _ _).mono HBa.out.size)).size)); have HVb := hide ((HVa.out.trans ((below_al _ _).mono HVa.out.size)).trans (hb4.mono (HVa.out.trans ((below_al _ _).mono HVa.out.size)).size)); have HZb := hide (keep (heap_alloc_new _ _) hb4); have HQz := hide (row_lt PARa.out); have HQy := hide (row_lt QARa.out); have HQw := hide (HVa.out.size); have HFb := hide ((HFa.out.below (below_al _ _)).below hb4))))
           have HGb := hide (hp4.lists HL'.out HS'.out)
           clear hp4 hb4)
        | (go_at_call 7
           refine (HIM.out _ _ _ _ _ ?_ ?_).mono ?_
           (first | (with_reducible exact HFb.out) | (with_reducible exact HFb.out.below (below_al _ _)))
           (first | (with_reducible exact HGb.out) | (with_reducible exact HGb.out.below (below_al _ _)))
           rintro e w5 ⟨aw', Bw, low, hiw, cw', rfl, hlw, hBw, hlow, hhiw, _, hb5⟩
           (first | (with_reducible (have PARc := hide (keep PARb.out hb5); have QARc := hide (keep QARb.out hb5); have HBc := hide (HBb.out.trans (hb5.mono HBb.out.size)); have HVc := hide (HVb.out.trans (hb5.mono HVb.out.size)); try have HZc := hide (keep HZb.out hb5))) | (with_reducible (have PARc := hide (keep (keep PARb.out (below_al _ _)) hb5); have QARc := hide (keep (keep QARb.out (below_al _ _)) hb5); have HBc := hide ((HBb.out.trans ((below_al _ _).mono HBb.out.size)).trans (hb5.mono (HBb.out.trans ((below_al _ _).mono HBb.out.size)).size)); have HVc := hide ((HVb.out.trans ((below_al _ _).mono HVb.out.size)).trans (hb5.mono (HVb.out.trans ((below_al _ _).mono HVb.out.size)).size)); have HZc := hide (keep (heap_alloc_new _ _) hb5); have HQz := hide (row_lt PARb.out); have HQy := hide (row_lt QARb.out); have HQw := hide (HVb.out.size))))
           have HFc := hide hlw
           (first | have HQx := hide (row_lt HZb.out) | have HQx := hide (row_lt (heap_alloc_new w4 (.cells #[.int .i64 0, .slice none 0 0, .int .i64 0, .int .i64 0] 32))))
           (try (have HZO := open4 HZc.out; obtain ⟨⟨z0, z1, z2, z3⟩, z4, z5, z6, z7⟩ := HZO))
           clear hlw hb5))
    all_goals (go_wp2_with fail; go_meet)
    all_goals first
      | exact ⟨aw', cw', _, rfl, rfl, ST.out.grow (set4_below HVc.out HQw.out _ _ _ _), set4 HZc.out _ _ _ _, (HFc.out.set4 (Nat.lt_of_lt_of_le HQx.out hlow) (Nat.lt_of_lt_of_le HQx.out hBw) _ _ _ _).lists HK.out.1 HK.out.2.1⟩
      | exact ⟨aw', cw', _, rfl, rfl, ST.out.grow (HVc.out.trans ((below_al _ _).mono HVc.out.size)), heap_alloc_new _ _, (HFc.out.growX (below_al _ _)).lists HK.out.1 HK.out.2.1⟩
  case rest =>
  clear ST PAR2 QAR2 HB2 hlt hlq PARd QARd HBd HVd PARe QARe HBe HVe HZe HIM w18
  rename World => w20
  obtain ⟨ah, ch, bh, rfl, rfl, ST2, HRH, HH⟩ := hcut
  obtain ⟨hg0, hg1, hg2, hg3⟩ := cells4c HRH.out
  obtain ⟨hw0, hw1, hw2, hw3⟩ := cells4c (keep W0U.out ST2.out.mid)
  have hlw := row_lt (keep W0U.out ST2.out.mid)
  have hlh := row_lt HRH.out
  go_wp2_with fail
  refine (eqFlow_any P S T ah aw N ch cw K _ HH.out (HWU.out.below ST2.out.mid) HK.out.2.1).mono ?_
  rintro e w21 ⟨rfl, hb⟩
  have ST := hide (ST2.out.grow hb)
  clear ST2 HH hb HRH hg0 hg1 hg2 hg3 hw0 hw1 hw2 hw3 hlw hlh
  obtain ⟨hg0, hg1, hg2, hg3⟩ := cells4c ST.out.g0
  go_wp2_with fail
  refine (heldFlowG_any P S T ag Bg lo hig N cg 1 (fun j => K.getD j []) _ ST.out.gn HK.out.2.2 hN20 (by omega)).mono ?_
  rintro e w22 ⟨rfl, hb⟩
  rw [hk3'.out]
  have HE := hide (ST.out.grow hb).old
  clear ST hb hg0 hg1 hg2 hg3
  go_wp2_with fail
  go_ret
  exact ⟨rfl, HE.out⟩

/-! ### THE ROW's STEP -/
set_option maxRecDepth 100000 in
theorem lifted (os : Os) (started : os.Started) (H : Type) (enc : TypeId × Value → H) :
    ReturnsInHanded {} Try.checked os 3 .any (Rows.fnExactChainFlowsSpec.pre6 enc Try.prog Try.f3 Rows.fnExactChainFlowsRow.domain false) (Rows.fnExactChainFlowsSpec.post enc Try.prog Try.f3 false true false false) := by
  refine returnsInHanded_of_change (C := Try.checked) own started (by kernel_rfl) Try.func3
    (ChangeSpec.witness6 (enc := enc) (C := Try.checked) false ⟨#[], #[.agg #[.int .i64 0, .slice none 0 0, .int .i64 0, .int .i64 0], .agg #[.int .i64 0, .slice none 0 0, .int .i64 0, .int .i64 0]], []⟩ 8 (by kernel_rfl) (by kernel_rfl) (by kernel_rfl) (by kernel_rfl)) ?_
  intro W base args ds gs before hval0 hW hcnd _
  have hval : ∀ (j : Nat) t v, Try.f3.params[j]? = some t → args[j]? = some v → Value.okWide Try.prog W .any base t v := hval0
  have hW' := hW
  obtain ⟨p, q, hA0, hV, rfl, hfz, hnd⟩ := hW
  have hA : DataW.TrodAll enc Try.prog W 0 (fun _ => true) true Try.f3.params.toList args.toList ds p := hA0
  rw [Try.params3] at hA hval
  obtain ⟨v0, vs0, d0, ds0, p0, q0, hargs, rfl, rfl, h0, r0⟩ := trodAll_cons hA
  obtain ⟨v1, vs1, d1, ds1, p1, q1, rfl, rfl, rfl, h1, r1⟩ := trodAll_cons r0
  obtain ⟨rfl, rfl, rfl⟩ := trodAll_nil r1
  obtain rfl : args = #[v0, v1] := by cases args; simp_all
  obtain ⟨rfl, rfl⟩ := trodVars_none hV
  have k0 := h0
  have lt0 : ∀ x ∈ p0, x.block < W.heap.size := by obtain ⟨m, hm⟩ := k0; exact DataW.trod_lt m _ _ _ hm
  obtain ⟨g0, a0, n0, c0, x0, y0, L0, rfl, m0, w0⟩ := open_flow (hval 0 26 v0 rfl rfl) h0
  have k1 := h1
  have lt1 : ∀ x ∈ p1, x.block < W.heap.size := by obtain ⟨m, hm⟩ := k1; exact DataW.trod_lt m _ _ _ hm
  obtain ⟨g1, a1, n1, c1, x1, y1, L1, rfl, m1, w1⟩ := open_flow (hval 1 26 v1 rfl rfl) h1
  clear hA0 hval0
  refine (walk g0 a0 n0 c0 x0 y0 L0 g1 a1 n1 c1 x1 y1 L1 W m0 w0 m1 w1).mono fun e W' ⟨he, bel⟩ => ?_
  subst he
  exact ⟨_, rfl, _, _, _, [], _, [], hW', trodAll_mk1 (shut_bool Try.underlying4 _), (trodAll_cons_mk (Below.trod laidOut (by kernel_rfl) (of_decide_eq_true (by kernel_rfl)) k0 bel lt0) (trodAll_cons_mk (Below.trod laidOut (by kernel_rfl) (of_decide_eq_true (by kernel_rfl)) k1 bel lt1) trodAll_mk0)), rfl, bel.frame _, fun h => by cases h⟩

theorem over : Rows.fnExactChainFlowsRow.holds Try.pinned (OpenSpec.ofChange Rows.fnExactChainFlowsSpec) :=
  OpenClaim.holds_of_wide 3 Try.f3 rfl rfl rfl rfl rfl rfl rfl ⟨rfl, rfl, rfl, rfl, rfl⟩ rfl rfl rfl rfl rfl (by kernel_rfl) Try.func3 (by kernel_rfl)
    (of_decide_eq_true (by kernel_rfl)) (by unfold Func.isWrapper; first | (rw [if_pos (by decide +kernel)]; kernel_rfl) | (rw [if_neg (by decide +kernel)]; exact ⟨rfl, rfl⟩))
    (fun os started H enc _ => lifted os started H enc)

/-- ████ THE STATEMENT ████ -/
theorem proved : Rows.FnExactChainFlowsSaid := over
#print axioms proved
end Go.Proofs.Ytoijlepjnpdlkaa.fnExactChainFlows

namespace Go.Proofs.Ytoijlepjnpdlkaa
theorem fnExactChainFlows_holds : Rows.FnExactChainFlowsSaid := fnExactChainFlows.proved
end Go.Proofs.Ytoijlepjnpdlkaa
