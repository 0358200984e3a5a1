/- Contracts that the proof stands on, one behind the other. -/
import Derived.Test.YtegabkegbhglfaaP12
/- BoundOf, the program's and the specification's, for every net, list, budget and place in memory. -/
namespace Go.Proofs.Ytegabkegbhglfaa
open Go.RowKit
set_option maxRecDepth 10000

/-- The space that is told. -/
def spSea (p : Int) (n : Nat) (L : List (List Int)) (ys : List Int) (bg : Int) : Sea := endS (searchS p n L bg.toNat ys)

theorem SpOk.is {p : Int} {n l : Nat} {L : List (List Int)} {ys : List Int} {bg : Int} {s : Sea} (h : SpOk p n l L ys bg s) : spSea p n L ys bg = s := by unfold spSea; rw [h.sea]; rfl

theorem SpOk.goodAt {p : Int} {n l : Nat} {L : List (List Int)} {ys : List Int} {bg : Int} {s : Sea} (h : SpOk p n l L ys bg s) {k : Nat} (hk : k < s.ms.length) : (s.ms.getD k []).length = l ∧ ∀ i, 0 ≤ (s.ms.getD k []).getD i 0 ∧ (s.ms.getD k []).getD i 0 ≤ 50 := by
  obtain ⟨h1, h2, h3⟩ := goodB_parts (h.ok.goodAt hk)
  have := h.hl
  exact ⟨by omega, h3⟩

theorem SpOk.l16 {p : Int} {n l : Nat} {L : List (List Int)} {ys : List Int} {bg : Int} {s : Sea} (h : SpOk p n l L ys bg s) : l ≤ 16 := by have := h.hl; have := h.hp; omega
theorem SpOk.m4 {p : Int} {n l : Nat} {L : List (List Int)} {ys : List Int} {bg : Int} {s : Sea} (h : SpOk p n l L ys bg s) : s.ms.length ≤ 400 := Nat.le_trans h.ok.le h.b4

def mostQ (a b : Int) : Int := if b < a then a else b

theorem mostQ_any (a b : Int) (w : World) : Calls Try.prog 93 #[.int .i64 a, .int .i64 b] w fun e w' => e = .returned (.int .i64 (mostQ a b)) ∧ w' = w := by
  unfold mostQ
  by_cases h : b < a
  · rw [if_pos h]
    go_enter Try.func93, Try.ntmps93
    go_wp2_with fail
    go_ret
    exact ⟨rfl, rfl⟩
  · rw [if_neg h]
    go_enter Try.func93, Try.ntmps93
    go_wp2_with fail
    go_ret
    exact ⟨rfl, rfl⟩

/-- The greatest number of a place among the first k marks. -/
def bdK (ms : List (List Int)) (q k : Nat) : Int := (ms.take k).foldl (fun b m => mostQ b (m.getD q 0)) 0

theorem bdK_succ {ms : List (List Int)} {q k : Nat} (hk : k < ms.length) : bdK ms q (k + 1) = mostQ (bdK ms q k) ((ms.getD k []).getD q 0) := by
  unfold bdK
  rw [List.take_add_one, List.getElem?_eq_getElem hk, List.foldl_append]
  simp only [Option.toList_some, List.foldl_cons, List.foldl_nil]
  rw [show ms.getD k [] = ms[k] by rw [List.getD_eq_getElem?_getD, List.getElem?_eq_getElem hk]; rfl]

def bdOk (p : Int) (n : Nat) (L : List (List Int)) (ys : List Int) (bg q : Int) : Bool := decide (spCode p n L ys bg = 1) && inB q 0 (p - 1)
def bdR (p : Int) (n : Nat) (L : List (List Int)) (ys : List Int) (bg q : Int) : Int := if bdOk p n L ys bg q then bdK (spSea p n L ys bg).ms q.toNat (spSea p n L ys bg).ms.length else 0

/-- How BoundOf ends. -/
def BdEnd (p : Int) (n : Nat) (L : List (List Int)) (ys : List Int) (bg q : Int) (w : World) (e : Ending) (w' : World) : Prop :=
  e = .returned (.tuple #[.int .i64 (bdR p n L ys bg q), .bool (bdOk p n L ys bg q)]) ∧ Below w.heap.size w w'

theorem bdEnd_no {p : Int} {n : Nat} {L : List (List Int)} {ys : List Int} {bg q : Int} {w w' : World} (h : bdOk p n L ys bg q = false) (hb : Below w.heap.size w w') : BdEnd p n L ys bg q w (.returned (.tuple #[.int .i64 0, .bool false])) w' := by
  refine ⟨?_, hb⟩
  unfold bdR; rw [h]; rfl

theorem bdEnd_yes {p : Int} {n l : Nat} {L : List (List Int)} {ys : List Int} {bg : Int} {q : Nat} {s : Sea} {w w' : World} (hc : spCode p n L ys bg = 1) (hq : inB (q : Int) 0 (p - 1) = true) (hs : SpOk p n l L ys bg s) (hb : Below w.heap.size w w') : BdEnd p n L ys bg (q : Int) w (.returned (.tuple #[.int .i64 (bdK s.ms q s.ms.length), .bool true])) w' := by
  refine ⟨?_, hb⟩
  have h : bdOk p n L ys bg (q : Int) = true := by unfold bdOk; rw [hq, hc]; rfl
  unfold bdR; rw [h, if_pos rfl, hs.is, Int.toNat_natCast]

theorem bdOk_code {p : Int} {n : Nat} {L : List (List Int)} {ys : List Int} {bg q : Int} (h : spCode p n L ys bg ≠ 1) : bdOk p n L ys bg q = false := by unfold bdOk; simp [h]
theorem bdOk_place {p : Int} {n : Nat} {L : List (List Int)} {ys : List Int} {bg q : Int} (h : inB q 0 (p - 1) = false) : bdOk p n L ys bg q = false := by unfold bdOk; rw [h, Bool.and_false]

theorem bdK_small {ms : List (List Int)} {q : Nat} (h : ∀ k, k < ms.length → 0 ≤ (ms.getD k []).getD q 0 ∧ (ms.getD k []).getD q 0 ≤ 50) : ∀ k, k ≤ ms.length → 0 ≤ bdK ms q k ∧ bdK ms q k ≤ 50 := by
  intro k
  induction k with
  | zero => intro _; simp [bdK]
  | succ k ih =>
    intro hk
    have := ih (by omega)
    have := h k (by omega)
    rw [bdK_succ (by omega)]
    unfold mostQ
    split <;> omega


set_option maxHeartbeats 1000000 in
theorem boundS_any (p : Int) (a am : Option Addr) (n c nm cm : Nat) (L : List (List Int)) (ys : List Int) (bg q : Int) (w : World) (h : Lists w a (3 * n) L) (rm : Row w am nm ys) (hs : sizeN n L ≤ 1048576) (hnm : nm ≤ 1048576) :
    Calls Try.prog 38 #[.agg #[.int .i64 p, .slice a n c], .slice am nm cm, .int .i64 bg, .int .i64 q] w fun e w' => BdEnd p n L ys bg q w e w' := by
  have hAl := below_al w (.cells #[.int .i64 p, .slice a n c] 39)
  have HN0 := hide (heap_alloc_new w (.cells #[.int .i64 p, .slice a n c] 39))
  have HX := hide (all_any4 p a am n c nm cm L ys bg _ (h.below hAl) (rm.below hAl) hs hnm)
  have HB0 := hide hAl
  clear h rm hAl
  go_enter Try.func38, Try.ntmps38
  go_wp2_with fail
  generalize w.alloc (.cells #[.int .i64 p, .slice a n c] 39) = v0 at *
  refine HX.out.mono ?_
  rintro e w1 ⟨hb1, hxx⟩
  have HN1 := hide (keep HN0.out hb1)
  have HB1 := hide (HB0.out.trans (hb1.mono HB0.out.size))
  clear hb1 HN0 HB0 HX
  rcases hxx with ⟨hcode, s, ma, mc, aa, ac, hok, rfl, hmr, har⟩ | ⟨hcode, rfl⟩
  rotate_left
  · have HN := hide (bdEnd_no (w := w) (bdOk_code (q := q) hcode) (HB1.out.trans ((below_al w1 (.cells #[.slice none 0 0, .slice none 0 0] 44)).mono HB1.out.size)))
    clear hcode
    go_wp2_with fail
    go_ret2
    exact HN.out
  have hA3 := below_al w1 (.cells #[.slice ma s.ms.length mc, .slice aa s.ar.length ac] 44)
  have HB3 := hide (HB1.out.trans (hA3.mono HB1.out.size))
  have HN3 := hide (keep HN1.out hA3)
  obtain ⟨hc0, hc1⟩ := cells2 HN3.out
  have HM3 := hide (hmr.go hA3)
  have HS3 := hide (heap_alloc_new w1 (.cells #[.slice ma s.ms.length mc, .slice aa s.ar.length ac] 44))
  have hp := hok.hp
  have hmx : ((s.ms.length : Nat) : Int) ≤ 400 := by have := hok.m4; omega
  clear hA3 hmr har HB1 HN1
  by_cases hq : inB q 0 (p - 1) = true
  rotate_left
  · have hq' : inB q 0 (p - 1) = false := by simpa using hq
    have HN := hide (bdEnd_no (w := w) (bdOk_place (n := n) (L := L) (ys := ys) (bg := bg) hq') HB3.out)
    clear hq
    go_wp2_with (go_at_call 92; refine (in_any _ _ _ _).mono ?_; rintro e w' ⟨rfl, rfl⟩)
    go_ret2
    exact HN.out
  have hqq : 0 ≤ q ∧ q ≤ p - 1 := by simpa [inB] using hq
  obtain ⟨qn, rfl⟩ : ∃ qn : Nat, q = (qn : Int) := ⟨q.toNat, by omega⟩
  have HY := hide (fun W (hW : Below w.heap.size w W) => bdEnd_yes (w := w) hcode hq hok hW)
  have HSM := hide (bdK_small (ms := s.ms) (q := qn) (fun k hk => (hok.goodAt hk).2 qn))
  have HOK := hide hok
  have hl := hok.hl
  clear hcode hok
  obtain ⟨hs0, hs1⟩ := cells2 HS3.out
  go_wp2_with (go_at_call 92; refine (in_any _ _ _ _).mono ?_; rintro e w' ⟨rfl, rfl⟩)
  generalize w1.alloc (.cells #[.slice ma s.ms.length mc, .slice aa s.ar.length ac] 44) = v3 at *
  clear hs0 hs1 hc0 hc1
  go_loop [12, 35] (fun t i => ∃ k : Nat, k ≤ s.ms.length ∧ i = .int .i64 k ∧ t = .int .i64 (bdK s.ms qn k)) (fun _ i => s.ms.length - (intOf i).toNat)
  case atStart => exact ⟨0, Nat.zero_le _, rfl, rfl⟩
  case round =>
    obtain ⟨k, hk, rfl, rfl⟩ := hrel
    by_cases hlt : k < s.ms.length
    rotate_left
    · have hk' : k = s.ms.length := by omega
      subst hk'
      go_wp2_with fail
      go_ret2
      exact HY.out _ HB3.out
    obtain ⟨mb, mg, mgc, rfl, hmb, hmc, hmr⟩ := HM3.out.at_ hlt
    have hgl := (HOK.out.goodAt hlt).1
    obtain ⟨b1, o1, x, he1, hb1, hc1, H1⟩ := hmr.row.at (show qn < nm by omega)
    have hx : x = (s.ms.getD k []).getD qn 0 := by rw [List.getD_eq_getElem?_getD, H1.out]; rfl
    subst hx
    obtain ⟨rfl, rfl⟩ : mg = b1 ∧ 0 = o1 := by
      simp only [Option.some.injEq, Addr.mk.injEq, and_true] at he1
      exact he1
    have HN := hide (bdK_succ (q := qn) hlt)
    have hki : (k : Int) < ((s.ms.length : Nat) : Int) := by omega
    have hk0 : (0 : Int) ≤ (k : Int) := by omega
    have hqi : (qn : Int) < (nm : Int) := by omega
    have hq0 : (0 : Int) ≤ (qn : Int) := by omega
    rw [Nat.zero_add] at hc1
    obtain ⟨x, hxq⟩ : ∃ x, Hid ((s.ms.getD k []).getD qn 0 = x) := ⟨_, rfl⟩
    obtain ⟨y, hyq⟩ : ∃ y, Hid (bdK s.ms qn k = y) := ⟨_, rfl⟩
    rw [hxq.out] at hc1 HN
    rw [hyq.out] at HN ⊢
    clear he1 H1 hmr hgl
    go_wp2_with (go_at_call 93; refine (mostQ_any _ _ _).mono ?_; rintro e w' ⟨rfl, rfl⟩)
    go_round
    case rel => exact ⟨k + 1, by omega, by go_num, by rw [HN.out]⟩
    case measure => simp [intOf]; omega

set_option maxHeartbeats 1000000 in
theorem boundI_any (p : Int) (a am : Option Addr) (n c nm cm : Nat) (L : List (List Int)) (ys : List Int) (bg q : Int) (w : World) (h : Lists w a (3 * n) L) (rm : Row w am nm ys) (hs : sizeN n L ≤ 1048576) (hnm : nm ≤ 1048576) :
    Calls Try.prog 37 #[.agg #[.int .i64 p, .slice a n c], .slice am nm cm, .int .i64 bg, .int .i64 q] w fun e w' => BdEnd p n L ys bg q w e w' := by
  have hAl := below_al w (.cells #[.int .i64 p, .slice a n c] 39)
  have HX := hide (spaceOf_any p a am n c nm cm L ys bg _ (h.below hAl) (rm.below hAl) hs hnm)
  have HB0 := hide hAl
  clear h rm hAl
  go_enter Try.func37, Try.ntmps37
  go_wp2_with fail
  generalize w.alloc (.cells #[.int .i64 p, .slice a n c] 39) = v0 at *
  refine HX.out.mono ?_
  rintro e w1 ⟨hb1, hxx⟩
  have HB1 := hide (HB0.out.trans (hb1.mono HB0.out.size))
  clear hb1 HB0 HX
  have hg0 := heap_alloc_new w1 (.cells spZ 102)
  have hA3 := below_al w1 (.cells spZ 102)
  rcases hxx with ⟨hcode, s, BS, mb, G, av, hok, hst, ⟨aa, ac, rfl⟩, rfl⟩ | ⟨hcode, rfl⟩
  rotate_left
  · have HN := hide (bdEnd_no (w := w) (bdOk_code (q := q) hcode) (below_setRow (HB1.out.trans (hA3.mono HB1.out.size)) w1.heap.size HB1.out.size spZ))
    obtain ⟨cd, hcd⟩ : ∃ cd, Hid (spCode p n L ys bg = cd) := ⟨_, rfl⟩
    rw [hcd.out] at hcode ⊢
    have hc1 : ¬ ((cd : Nat) : Int) = 1 := by omega
    have hbe : (((cd : Nat) : Int) != 1) = true := by simpa using hc1
    clear hcode hcd hA3
    go_wp2_with ((show wpList _ _ _ (⟨none, .store 102 (.tmp 10) (.tmp 20), _, _, _, _⟩ :: _) _ _); refine wpList_store_row rfl 102 _ _ rfl _ _ rfl rfl 102 _ hg0 Try.size102 rfl (one5 rfl rfl rfl rfl rfl) ?_)
    go_ret2
    exact HN.out
  have hV := below_setRow hA3 w1.heap.size (Nat.le_refl _) (spV p n BS mb G s.ms.length (.slice aa s.ar.length ac))
  have HB3 := hide (HB1.out.trans (hV.mono HB1.out.size))
  have HS3 := hide (hst.grow hV)
  have HV3 := hide (setRow_same hg0 (spV p n BS mb G s.ms.length (.slice aa s.ar.length ac)))
  have hp := hok.hp
  have hm4 := hok.m4
  have hl := hok.hl
  clear hA3 hV hst HB1
  obtain ⟨⟨hc0, hc1, hc2, hc3, hc4⟩, _⟩ := cells5 HV3.out
  have HLK := hide (lacksT_any p q (some ⟨BS, 0, none⟩) n n ((w1.alloc (.cells spZ 102)).setRow w1.heap.size (spV p n BS mb G s.ms.length (.slice aa s.ar.length ac))))
  have hne : ((1 : Int) != 1) = false := by decide
  by_cases hq : inB q 0 (p - 1) = true
  rotate_left
  · have hq' : inB q 0 (p - 1) = false := by simpa using hq
    have HN := hide (fun W (hW : Below w.heap.size w W) => bdEnd_no (w := w) (bdOk_place (n := n) (L := L) (ys := ys) (bg := bg) hq') hW)
    rw [hq'] at HLK
    clear hq hq'
    go_wp2_with ((show wpList _ _ _ (⟨none, .store 102 (.tmp 10) (.tmp 20), _, _, _, _⟩ :: _) _ _); refine wpList_store_row rfl 102 _ _ rfl _ _ rfl rfl 102 _ hg0 Try.size102 rfl (one5 rfl rfl rfl rfl rfl) ?_)
    refine HLK.out.mono ?_
    rintro e w2 ⟨rfl, hb2⟩
    have HY := hide (HN.out _ (HB3.out.trans (hb2.mono HB3.out.size)))
    clear hb2
    go_wp2_with fail
    go_ret2
    exact HY.out
  have hqq : 0 ≤ q ∧ q ≤ p - 1 := by simpa [inB] using hq
  obtain ⟨qn, rfl⟩ : ∃ qn : Nat, q = (qn : Int) := ⟨q.toNat, by omega⟩
  have HY := hide (fun W (hW : Below w.heap.size w W) => bdEnd_yes (w := w) hcode hq hok hW)
  have HSM := hide (bdK_small (ms := s.ms) (q := qn) (fun k hk => (hok.goodAt hk).2 qn))
  have HOK := hide hok
  rw [hq] at HLK
  clear hcode hok hq
  go_wp2_with ((show wpList _ _ _ (⟨none, .store 102 (.tmp 10) (.tmp 20), _, _, _, _⟩ :: _) _ _); refine wpList_store_row rfl 102 _ _ rfl _ _ rfl rfl 102 _ hg0 Try.size102 rfl (one5 rfl rfl rfl rfl rfl) ?_)
  clear hg0
  generalize (w1.alloc (.cells spZ 102)).setRow w1.heap.size (spV p n BS mb G s.ms.length (.slice aa s.ar.length ac)) = v3 at *
  refine HLK.out.mono ?_
  rintro e w2 ⟨rfl, hb2⟩
  have HB4 := hide (HB3.out.trans (hb2.mono HB3.out.size))
  have HS4 := hide (HS3.out.grow hb2)
  have HV4 := hide (keep HV3.out hb2)
  clear hc0 hc1 hc2 hc3 hc4 hb2 HB3 HS3 HV3 HLK
  obtain ⟨⟨hc0, hc1, hc2, hc3, hc4⟩, _⟩ := cells5 HV4.out
  have hmx : ((s.ms.length : Nat) : Int) ≤ 400 := by omega
  go_wp2_with fail
  clear hc0 hc1 hc2 hc3 hc4 HV4
  have HT4 := hide HS4.out.toks
  go_loopw [12, 33] (fun t i wr => ∃ k : Nat, k ≤ s.ms.length ∧ i = .int .i64 k ∧ t = .int .i64 (bdK s.ms qn k) ∧ Hid (Below w.heap.size w wr ∧ TokAll wr G nm s.ms)) (fun _ i _ => s.ms.length - (intOf i).toNat)
  case atStart => exact ⟨0, Nat.zero_le _, rfl, rfl, HB4.out, HT4.out⟩
  case round =>
    obtain ⟨k, hk, rfl, rfl, hbt⟩ := hrel
    by_cases hlt : k < s.ms.length
    rotate_left
    · have hk' : k = s.ms.length := by omega
      subst hk'
      go_wp2_with fail
      go_ret2
      exact HY.out _ hbt.out.1
    have hrg := hbt.out.2.cells k hlt
    have hsm := HSM.out k hk
    have hgd := (HOK.out.goodAt hlt).2 qn
    have HN := hide (bdK_succ (q := qn) hlt)
    have hki : (k : Int) < ((s.ms.length : Nat) : Int) := by omega
    have hk0 : (0 : Int) ≤ (k : Int) := by omega
    have hq16 : (qn : Int) < 16 := by omega
    have hq0 : (0 : Int) ≤ (qn : Int) := by omega
    obtain ⟨m, hmq⟩ : ∃ m, Hid (s.ms.getD k [] = m) := ⟨_, rfl⟩
    rw [hmq.out] at hrg hgd HN
    have hgw := heap_alloc_new wr (.cells #[.int .u8 0, .int .u8 0, .int .u8 0, .int .u8 0, .int .u8 0, .int .u8 0, .int .u8 0, .int .u8 0, .int .u8 0, .int .u8 0, .int .u8 0, .int .u8 0, .int .u8 0, .int .u8 0, .int .u8 0, .int .u8 0] 82)
    have hbx := below_setRow (below_al wr (.cells #[.int .u8 0, .int .u8 0, .int .u8 0, .int .u8 0, .int .u8 0, .int .u8 0, .int .u8 0, .int .u8 0, .int .u8 0, .int .u8 0, .int .u8 0, .int .u8 0, .int .u8 0, .int .u8 0, .int .u8 0, .int .u8 0] 82)) wr.heap.size (Nat.le_refl _) (packOf m nm)
    have hcq : ((wr.alloc (.cells #[.int .u8 0, .int .u8 0, .int .u8 0, .int .u8 0, .int .u8 0, .int .u8 0, .int .u8 0, .int .u8 0, .int .u8 0, .int .u8 0, .int .u8 0, .int .u8 0, .int .u8 0, .int .u8 0, .int .u8 0, .int .u8 0] 82)).setRow wr.heap.size (packOf m nm)).cell? ⟨wr.heap.size, qn, none⟩ = some (.int .u8 (m.getD qn 0)) := by
      rw [cell_of_row _ wr.heap.size qn _ _ _ (setRow_same hgw (packOf m nm)), packOf_at _ _ _ (by omega), if_pos (by omega)]
    have HBT : Hid (Below w.heap.size w ((wr.alloc (.cells #[.int .u8 0, .int .u8 0, .int .u8 0, .int .u8 0, .int .u8 0, .int .u8 0, .int .u8 0, .int .u8 0, .int .u8 0, .int .u8 0, .int .u8 0, .int .u8 0, .int .u8 0, .int .u8 0, .int .u8 0, .int .u8 0] 82)).setRow wr.heap.size (packOf m nm)) ∧ TokAll ((wr.alloc (.cells #[.int .u8 0, .int .u8 0, .int .u8 0, .int .u8 0, .int .u8 0, .int .u8 0, .int .u8 0, .int .u8 0, .int .u8 0, .int .u8 0, .int .u8 0, .int .u8 0, .int .u8 0, .int .u8 0, .int .u8 0, .int .u8 0] 82)).setRow wr.heap.size (packOf m nm)) G nm s.ms) :=
      ⟨hbt.out.1.trans (hbx.mono hbt.out.1.size), hbt.out.2.grow hbx⟩
    obtain ⟨x, hxq⟩ : ∃ x, Hid (m.getD qn 0 = x) := ⟨_, rfl⟩
    obtain ⟨y, hyq⟩ : ∃ y, Hid (bdK s.ms qn k = y) := ⟨_, rfl⟩
    rw [hxq.out] at hcq HN hgd
    rw [hyq.out] at HN hsm ⊢
    clear hbx hbt
    go_wp2_with (first
      | ((show wpList _ _ _ (⟨some 36, .load 82 (.tmp 35), _, _, _, _⟩ :: _) _ _); refine wpList_load_tokQ rfl (.tmp 35) rfl G (k * 16) rfl nm m hrg ?_)
      | ((show wpList _ _ _ (⟨none, .store 82 (.tmp 14) (.tmp 36), _, _, _, _⟩ :: _) _ _); refine wpList_store_row rfl 82 _ _ rfl _ _ rfl rfl 82 _ hgw (by rw [packOf_size]; exact Try.size82) (by rw [packOf_size]; rfl) (packOf_one _ _) ?_))
    have HMX : Hid ((if y < x then x else y) = mostQ y x) := by show _ = _; unfold mostQ; split <;> split <;> omega
    go_roundw
    case rel => exact ⟨k + 1, by omega, by go_num, by rw [HN.out, HMX.out], HBT⟩
    case measure => simp [intOf]; omega

end Go.Proofs.Ytegabkegbhglfaa


/- spaceAndTokens of the program; CanCome of both. -/
namespace Go.Proofs.Ytegabkegbhglfaa
open Go.RowKit
set_option maxRecDepth 10000

/-- Whether the space is told whole and the list is a marking. -/
def saOk (p : Int) (n : Nat) (L : List (List Int)) (ys : List Int) (bg : Int) (xs : List Int) : Bool := (spCode p n L ys bg == 1) && goodB p xs

/-- How spaceAndTokens ends. -/
def SaEnd (p : Int) (n l nx : Nat) (L : List (List Int)) (ys : List Int) (bg : Int) (xs : List Int) (w : World) (e : Ending) (w' : World) : Prop :=
  Below w.heap.size w w' ∧
    ((saOk p n L ys bg xs = true ∧ ∃ s B BS mb G aa ac, SpOk p n l L ys bg s ∧ SpSt B w' p n l L s BS mb G (.slice aa s.ar.length ac) ∧ e = .returned (.tuple #[.agg (spV p n BS mb G s.ms.length (.slice aa s.ar.length ac)), .agg (packOf xs nx), .bool true])) ∨
     (saOk p n L ys bg xs = false ∧ ∃ k, e = .returned (.tuple #[.agg spZ, .agg (packOf xs k), .bool false])))

theorem TokAll.kept {w w' : World} {G l : Nat} {ms : List (List Int)} (h : TokAll w G l ms) (hk : w'.heap[G]? = w.heap[G]?) : TokAll w' G l ms :=
  ⟨(Array.getElem?_eq_some_iff.1 (hk.trans (Array.getElem?_eq_getElem h.lt))).1, fun i hi j v hv => by rw [← h.cells i hi j v hv]; simp only [World.cell?, hk]⟩

/-- A space stays where its blocks stay. -/
theorem SpSt.kept {B : Nat} {w w' : World} {p : Int} {n l : Nat} {L : List (List Int)} {s : Sea} {BS mb G : Nat} {av : Value} (h : SpSt B w p n l L s BS mb G av) (hk : ∀ g, B ≤ g → g < w.heap.size → w'.heap[g]? = w.heap[g]?) : SpSt B w' p n l L s BS mb G av :=
  ⟨h.steps.kept (hk BS h.hBS h.steps.lt), h.map.kept (hk mb h.hmb h.map.lt), h.toks.kept (hk G h.hG h.toks.lt), ownsRow_kept h.arcs fun g hg => hk g (own_lt h.arcs hg).1 (own_lt h.arcs hg).2, h.hBS, h.hmb, h.hG⟩

theorem spV_one (p : Int) (n BS mb G N : Nat) (a : Option Addr) (x c : Nat) : (spV p n BS mb G N (.slice a x c)).all (·.oneCell') = true := one5 rfl rfl rfl rfl rfl
theorem spZ_one : spZ.all (·.oneCell') = true := one5 rfl rfl rfl rfl rfl

theorem sa_res {fn : Func} {q r u : Tmp} (hr : fn.results = #[.cell q 102, .cell r 82, .tmp u]) (tmps : Array Value) (W : World) (b d : Nat) (C D : Array Value) (v : Value) (h4 : tmps.getD q undef = .pointer (some ⟨b, 0, none⟩)) (h6 : tmps.getD r undef = .pointer (some ⟨d, 0, none⟩)) (h5 : tmps.getD u undef = v)
    (hs : C.size = 5) (q4 : W.heap[b]? = some (.cells C 102 (0, 0))) (hs2 : D.size = 16) (q6 : W.heap[d]? = some (.cells D 82 (0, 0))) : (results fn tmps).run Try.prog W = .ok (.tuple #[.agg C, .agg D, v]) W := by
  have r1 : (loadVar 102 ⟨b, 0, none⟩).run Try.prog W = .ok (.agg C) W := run_loadVar_row _ _ 102 102 C (0, 0) _ q4 Try.underlying102 rfl (by rw [hs]; exact Try.size102)
  have r2 : (loadVar 82 ⟨d, 0, none⟩).run Try.prog W = .ok (.agg D) W := run_loadVar_row _ _ 82 82 D (0, 0) _ q6 Try.underlying82 rfl (by rw [hs2]; exact Try.size82)
  have e : (results fn tmps).run Try.prog W = ((asAddr (tmps.getD q undef)).run Try.prog W).andThen fun a w1 => ((loadVar 102 a).run Try.prog w1).andThen fun v1 w2 => ((asAddr (tmps.getD r undef)).run Try.prog w2).andThen fun b w3 => ((loadVar 82 b).run Try.prog w3).andThen fun v2 w4 => .ok (.tuple #[v1, v2, tmps.getD u undef]) w4 := by
    simp only [results, hr]
    simp [Sem.run_bind, Result.andThen]
  rw [e, h4, h5, h6]
  show ((loadVar 102 ⟨b, 0, none⟩).run Try.prog W).andThen _ = _
  rw [r1]
  show ((loadVar 82 ⟨d, 0, none⟩).run Try.prog W).andThen _ = _
  rw [r2]
  rfl


set_option maxHeartbeats 1000000 in
theorem spaceTok_any (p : Int) (a am ax : Option Addr) (n c nm cm nx cx : Nat) (L : List (List Int)) (ys xs : List Int) (bg : Int) (w : World) (h : Lists w a (3 * n) L) (rm : Row w am nm ys) (rx : Row w ax nx xs) (hs : sizeN n L ≤ 1048576) (hnm : nm ≤ 1048576) (hnx : nx ≤ 1048576) :
    Calls Try.prog 78 #[.agg #[.int .i64 p, .slice a n c], .slice am nm cm, .int .i64 bg, .slice ax nx cx] w fun e w' => SaEnd p n nm nx L ys bg xs w e w' := by
  have hAl := (below_al w (.cells #[.int .i64 p, .slice a n c] 39)).trans ((below_al (w.alloc (.cells #[.int .i64 p, .slice a n c] 39)) (.cells spZ 102)).mono (by simp))
  have hAl3 := hAl.trans ((below_al ((w.alloc (.cells #[.int .i64 p, .slice a n c] 39)).alloc (.cells spZ 102)) (.cells #[.int .u8 0, .int .u8 0, .int .u8 0, .int .u8 0, .int .u8 0, .int .u8 0, .int .u8 0, .int .u8 0, .int .u8 0, .int .u8 0, .int .u8 0, .int .u8 0, .int .u8 0, .int .u8 0, .int .u8 0, .int .u8 0] 82)).mono hAl.size)
  have HB0 := hide hAl3
  have hN0 := keep (keep (heap_alloc_new w (.cells #[.int .i64 p, .slice a n c] 39)) (below_al (w.alloc (.cells #[.int .i64 p, .slice a n c] 39)) (.cells spZ 102))) (below_al ((w.alloc (.cells #[.int .i64 p, .slice a n c] 39)).alloc (.cells spZ 102)) (.cells #[.int .u8 0, .int .u8 0, .int .u8 0, .int .u8 0, .int .u8 0, .int .u8 0, .int .u8 0, .int .u8 0, .int .u8 0, .int .u8 0, .int .u8 0, .int .u8 0, .int .u8 0, .int .u8 0, .int .u8 0, .int .u8 0] 82))
  have hR0 := keep (heap_alloc2_new w (.cells #[.int .i64 p, .slice a n c] 39) (.cells spZ 102)) (below_al ((w.alloc (.cells #[.int .i64 p, .slice a n c] 39)).alloc (.cells spZ 102)) (.cells #[.int .u8 0, .int .u8 0, .int .u8 0, .int .u8 0, .int .u8 0, .int .u8 0, .int .u8 0, .int .u8 0, .int .u8 0, .int .u8 0, .int .u8 0, .int .u8 0, .int .u8 0, .int .u8 0, .int .u8 0, .int .u8 0] 82))
  have hT0 := heap_alloc_new ((w.alloc (.cells #[.int .i64 p, .slice a n c] 39)).alloc (.cells spZ 102)) (.cells #[.int .u8 0, .int .u8 0, .int .u8 0, .int .u8 0, .int .u8 0, .int .u8 0, .int .u8 0, .int .u8 0, .int .u8 0, .int .u8 0, .int .u8 0, .int .u8 0, .int .u8 0, .int .u8 0, .int .u8 0, .int .u8 0] 82)
  rw [show ((w.alloc (.cells #[.int .i64 p, .slice a n c] 39)).alloc (.cells spZ 102)).heap.size = w.heap.size + 2 by simp] at hT0
  have HL0 := hide (h.below hAl3)
  have HM0 := hide (rm.below hAl3)
  have HX0 := hide (rx.below hAl3)
  clear h rm rx hAl hAl3
  go_enter Try.func78, Try.ntmps78
  go_upto_region 1 with fail
  generalize ((w.alloc (.cells #[.int .i64 p, .slice a n c] 39)).alloc (.cells spZ 102)).alloc (.cells #[.int .u8 0, .int .u8 0, .int .u8 0, .int .u8 0, .int .u8 0, .int .u8 0, .int .u8 0, .int .u8 0, .int .u8 0, .int .u8 0, .int .u8 0, .int .u8 0, .int .u8 0, .int .u8 0, .int .u8 0, .int .u8 0] 82) = v0 at *
  obtain ⟨hc0, hc1⟩ := cells2 hN0
  go_wp2_with fail
  refine (tokens_any p ax nx cx xs _ HX0.out hnx).mono ?_
  rintro e w1 ⟨m, rfl, hm, hb⟩
  have hz0 := HB0.out.size
  have HB1 := hide (HB0.out.trans (hb.mono HB0.out.size))
  have hz1 := HB1.out.size
  have hl8 := row_lt (keep hR0 hb)
  have hl9 := row_lt (keep hT0 hb)
  have hA := below_al w1 (.cells #[.int .u8 0, .int .u8 0, .int .u8 0, .int .u8 0, .int .u8 0, .int .u8 0, .int .u8 0, .int .u8 0, .int .u8 0, .int .u8 0, .int .u8 0, .int .u8 0, .int .u8 0, .int .u8 0, .int .u8 0, .int .u8 0] 82)
  have hg0 := heap_alloc_new w1 (.cells #[.int .u8 0, .int .u8 0, .int .u8 0, .int .u8 0, .int .u8 0, .int .u8 0, .int .u8 0, .int .u8 0, .int .u8 0, .int .u8 0, .int .u8 0, .int .u8 0, .int .u8 0, .int .u8 0, .int .u8 0, .int .u8 0] 82)
  have hV := below_setRow hA w1.heap.size (Nat.le_refl _) (packOf xs m)
  have HB2 := hide (HB1.out.trans (hV.mono HB1.out.size))
  have HN2 := hide (keep (keep hN0 hb) hV)
  have HR8 := hide (keep (keep hR0 hb) hV)
  have HR9 := hide (keep (keep hT0 hb) hV)
  have HT11 := hide (setRow_same hg0 (packOf xs m))
  have hbb := hb.trans (hV.mono hb.size)
  have HL2 := hide (HL0.out.below hbb)
  have HM2 := hide (HM0.out.below hbb)
  have hb11 : w1.heap.size ≠ w.heap.size + 1 ∧ w1.heap.size ≠ w.heap.size + 2 := by omega
  clear hb hbb hV hA HB0 HB1 HL0 HM0 HX0 hN0 hR0 hT0 hc0 hc1
  go_upto_region 2 with ((show wpList _ _ _ (⟨none, .store 82 (.tmp 11) (.tmp 20), _, _, _, _⟩ :: _) _ _); refine wpList_store_row rfl 82 _ _ rfl _ _ rfl rfl 82 _ hg0 (by rw [packOf_size]; exact Try.size82) (by rw [packOf_size]; rfl) (packOf_one _ _) ?_)
  clear hg0
  generalize (w1.alloc (.cells #[.int .u8 0, .int .u8 0, .int .u8 0, .int .u8 0, .int .u8 0, .int .u8 0, .int .u8 0, .int .u8 0, .int .u8 0, .int .u8 0, .int .u8 0, .int .u8 0, .int .u8 0, .int .u8 0, .int .u8 0, .int .u8 0] 82)).setRow w1.heap.size (packOf xs m) = v2 at *
  by_cases hgx : goodB p xs = true
  rotate_left
  · have hgx' : goodB p xs = false := by simpa using hgx
    have hso : saOk p n L ys bg xs = false := by unfold saOk; rw [hgx', Bool.and_false]
    have HR9s : Hid ((v2.setRow (w.heap.size + 1) spZ).heap[w.heap.size + 2]? = some (.cells #[.int .u8 0, .int .u8 0, .int .u8 0, .int .u8 0, .int .u8 0, .int .u8 0, .int .u8 0, .int .u8 0, .int .u8 0, .int .u8 0, .int .u8 0, .int .u8 0, .int .u8 0, .int .u8 0, .int .u8 0, .int .u8 0] 82 (0, 0))) := (setRow_other _ _ _ _ (by omega)).trans HR9.out
    have HR8s : Hid (((v2.setRow (w.heap.size + 1) spZ).setRow (w.heap.size + 2) #[.int .u8 0, .int .u8 0, .int .u8 0, .int .u8 0, .int .u8 0, .int .u8 0, .int .u8 0, .int .u8 0, .int .u8 0, .int .u8 0, .int .u8 0, .int .u8 0, .int .u8 0, .int .u8 0, .int .u8 0, .int .u8 0]).heap[w.heap.size + 1]? = some (.cells spZ 102 (0, 0))) := (setRow_other _ _ _ _ (by omega)).trans (setRow_same HR8.out spZ)
    have HN : Hid (SaEnd p n nm nx L ys bg xs w (.returned (.tuple #[.agg spZ, .agg #[.int .u8 0, .int .u8 0, .int .u8 0, .int .u8 0, .int .u8 0, .int .u8 0, .int .u8 0, .int .u8 0, .int .u8 0, .int .u8 0, .int .u8 0, .int .u8 0, .int .u8 0, .int .u8 0, .int .u8 0, .int .u8 0], .bool false])) ((v2.setRow (w.heap.size + 1) spZ).setRow (w.heap.size + 2) #[.int .u8 0, .int .u8 0, .int .u8 0, .int .u8 0, .int .u8 0, .int .u8 0, .int .u8 0, .int .u8 0, .int .u8 0, .int .u8 0, .int .u8 0, .int .u8 0, .int .u8 0, .int .u8 0, .int .u8 0, .int .u8 0])) :=
      ⟨below_setRow (below_setRow HB2.out _ (by omega) _) _ (by omega) _, .inr ⟨hso, 0, by rw [packOf_zero]⟩⟩
    have hz1 : (#[.int .u8 0, .int .u8 0, .int .u8 0, .int .u8 0, .int .u8 0, .int .u8 0, .int .u8 0, .int .u8 0, .int .u8 0, .int .u8 0, .int .u8 0, .int .u8 0, .int .u8 0, .int .u8 0, .int .u8 0, .int .u8 0] : Array Value).all (·.oneCell') = true := by rw [← packOf_zero xs]; exact packOf_one _ _
    rw [hgx']
    clear hgx hgx' hso
    go_wp2_with (first
      | ((show wpList _ _ _ (⟨none, .store 102 (.tmp 8) (.tmp 24), _, _, _, _⟩ :: _) _ _); refine wpList_store_row rfl 102 _ _ rfl _ _ rfl rfl 102 _ HR8.out Try.size102 rfl spZ_one ?_)
      | ((show wpList _ _ _ (⟨none, .store 82 (.tmp 9) (.tmp 25), _, _, _, _⟩ :: _) _ _); refine wpList_store_row rfl 82 _ _ rfl _ _ rfl rfl 82 _ HR9s.out Try.size82 rfl hz1 ?_))
    refine bodyPost_ret (v := .tuple #[.agg spZ, .agg #[.int .u8 0, .int .u8 0, .int .u8 0, .int .u8 0, .int .u8 0, .int .u8 0, .int .u8 0, .int .u8 0, .int .u8 0, .int .u8 0, .int .u8 0, .int .u8 0, .int .u8 0, .int .u8 0, .int .u8 0, .int .u8 0], .bool false]) ?_ rfl HN.out
    exact sa_res Try.results78 _ _ (w.heap.size + 1) (w.heap.size + 2) _ _ _ rfl rfl rfl rfl HR8s.out rfl (setRow_same HR9s.out _)
  have hmx : m = nx := hm.out hgx
  subst hmx
  rw [hgx]
  have HSP := hide (spaceOf_any p a am n c nm cm L ys bg _ HL2.out HM2.out hs hnm)
  obtain ⟨hc0, hc1⟩ := cells2 HN2.out
  go_wp2_with fail
  refine HSP.out.mono ?_
  rintro e w4 ⟨hb, hxx⟩
  have HB4 := hide (HB2.out.trans (hb.mono HB2.out.size))
  have HR84 := hide (keep HR8.out hb)
  have HR94 := hide (keep HR9.out hb)
  have HT4 := hide (keep HT11.out hb)
  have hz4 := hb.size
  have hl11 := row_lt HT11.out
  have hb2 : w.heap.size + 2 < v2.heap.size := by omega
  generalize v2.heap.size = b2 at *
  obtain ⟨sv, z, rfl, hsz, hone, HF⟩ : ∃ sv z, e = .returned (.tuple #[.agg sv, .int .i64 z]) ∧ sv.size = 5 ∧ sv.all (·.oneCell') = true ∧ Hid (∀ W', (∀ g, b2 ≤ g → g < w4.heap.size → W'.heap[g]? = w4.heap[g]?) → Below w.heap.size w W' → SaEnd p n nm m L ys bg xs w (.returned (.tuple #[.agg sv, .agg (packOf xs m), .bool (z == 1)])) W') := by
    rcases hxx with ⟨hcode, s, BS, mb, G, av, hok, hst, ⟨aa, ac, rfl⟩, rfl⟩ | ⟨hcode, rfl⟩
    · exact ⟨_, _, rfl, rfl, spV_one _ _ _ _ _ _ _ _ _, fun W' h4 h0 => ⟨h0, .inl ⟨by unfold saOk; rw [hcode, hgx]; rfl, s, _, BS, mb, G, aa, ac, hok, hst.kept h4, rfl⟩⟩⟩
    · refine ⟨_, _, rfl, rfl, spZ_one, fun W' h4 h0 => ⟨h0, .inr ⟨by unfold saOk; rw [Bool.and_eq_false_iff]; exact .inl (by simpa using hcode), m, ?_⟩⟩⟩
      have : ((spCode p n L ys bg : Int) == 1) = false := by simp; omega
      rw [this]
  clear hxx hb HB2 HR8 HR9 HT11 HN2 HL2 HM2 HSP hc0 hc1 hm hgx v2
  have hA := below_al w4 (.cells spZ 102)
  have hg0 := heap_alloc_new w4 (.cells spZ 102)
  have hV := below_setRow hA w4.heap.size (Nat.le_refl _) sv
  have HB5 := hide (HB4.out.trans (hV.mono HB4.out.size))
  have HR85 := hide (keep HR84.out hV)
  have HR95 := hide (keep HR94.out hV)
  have HT5 := hide (keep HT4.out hV)
  have HV5 := hide (setRow_same hg0 sv)
  have HF5 : Hid (∀ W', (∀ g, b2 ≤ g → g < w4.heap.size → W'.heap[g]? = ((w4.alloc (.cells spZ 102)).setRow w4.heap.size sv).heap[g]?) → Below w.heap.size w W' → SaEnd p n nm m L ys bg xs w (.returned (.tuple #[.agg sv, .agg (packOf xs m), .bool (z == 1)])) W') := fun W' h4 h0 => HF.out W' (fun g g1 g2 => (h4 g g1 g2).trans (hV.block g g2)) h0
  clear hV hA HB4 HR84 HR94 HT4 HF
  go_upto_region 5 with ((show wpList _ _ _ (⟨none, .store 102 (.tmp 13) (.tmp 31), _, _, _, _⟩ :: _) _ _); refine wpList_store_row rfl 102 _ _ rfl _ _ rfl rfl 102 _ hg0 (by rw [hsz]; exact Try.size102) (by rw [hsz]; rfl) hone ?_)
  clear hg0
  have hb13 : w4.heap.size ≠ w.heap.size + 1 ∧ w4.heap.size ≠ w.heap.size + 2 ∧ w1.heap.size < w4.heap.size := by omega
  generalize (w4.alloc (.cells spZ 102)).setRow w4.heap.size sv = v5 at *
  have HB6 := hide (HB5.out.drew)
  have HR86 := hide (keep HR85.out (Below.refl _ v5).drew)
  have HR96 := hide (keep HR95.out (Below.refl _ v5).drew)
  have HT6 := hide (keep HT5.out (Below.refl _ v5).drew)
  have HV6 := hide (keep HV5.out (Below.refl _ v5).drew)
  have HF6 : Hid (∀ W', (∀ g, b2 ≤ g → g < w4.heap.size → W'.heap[g]? = v5.drew.heap[g]?) → Below w.heap.size w W' → SaEnd p n nm m L ys bg xs w (.returned (.tuple #[.agg sv, .agg (packOf xs m), .bool (z == 1)])) W') := fun W' h4 h0 => HF5.out W' (fun g g1 g2 => h4 g g1 g2) h0
  clear HB5 HR85 HR95 HT5 HV5 HF5
  refine wp_region_held_drew (S := fun W => W.heap[w4.heap.size]? = some (.cells sv 102 (0, 0)) ∧ W.heap[w1.heap.size]? = some (.cells (packOf xs m) 82 (0, 0))) (by kernel_rfl) ?_ (fun hHeld => ?_)
  · exact ⟨HV6.out, HT6.out⟩
  generalize v5.drew = v6 at *
  refine take_yes (i := 0) (some 33) (.agg sv) rfl rfl (by kernel_rfl) (by kernel_rfl) (by kernel_rfl) (fun _ _ _ h => h) (by rfl) ?_ (by assumption) ?_
  · intro W' hSw
    obtain ⟨hz0, hz1⟩ := hSw
    exact exec_load_row 102 _ rfl _ rfl 102 _ _ _ hz0 Try.underlying102 rfl (by rw [hsz]; exact Try.size102)
  simp only [Act.put, List.setIfInBounds_toArray, List.set_cons_zero, List.set_cons_succ]
  refine take_yes (i := 1) (some 34) (.agg (packOf xs m)) rfl rfl (by kernel_rfl) (by kernel_rfl) (by kernel_rfl) (fun _ _ _ h => h) (by rfl) ?_ (by assumption) ?_
  · intro W' hSw
    obtain ⟨hz0, hz1⟩ := hSw
    exact exec_load_row 82 _ rfl _ rfl 82 _ _ _ hz1 Try.underlying82 rfl (by rw [packOf_size]; exact Try.size82)
  simp only [Act.put, List.setIfInBounds_toArray, List.set_cons_zero, List.set_cons_succ]
  refine take_yes (i := 2) (some 35) (.int .i64 z) rfl rfl (by kernel_rfl) (by kernel_rfl) (by kernel_rfl) (fun _ _ _ h => h) (by rfl) ?_ (by assumption) ?_
  · intro W' hSw
    go_simp
  simp only [Act.put, List.setIfInBounds_toArray, List.set_cons_zero, List.set_cons_succ]
  refine take_yes (i := 3) (some 36) (.bool (z == 1)) rfl rfl (by kernel_rfl) (by kernel_rfl) (by kernel_rfl) (fun _ _ _ h => h) (by rfl) ?_ (by assumption) ?_
  · intro W' hSw
    go_simp
  simp only [Act.put, List.setIfInBounds_toArray, List.set_cons_zero, List.set_cons_succ]
  have HR97 := hide ((setRow_otherW v6 (show w.heap.size + 2 ≠ w.heap.size + 1 by omega) sv).trans HR96.out)
  have HN := hide (HF6.out _ (fun g g1 _ => (setRow_otherW _ (show g ≠ w.heap.size + 2 by omega) _).trans (setRow_otherW _ (show g ≠ w.heap.size + 1 by omega) _)) (below_setRow (below_setRow HB6.out _ (by omega) sv) (w.heap.size + 2) (by omega) (packOf xs m)))
  have h8 := HR86.out
  have h9 := HR97.out
  have hv13 := HV6.out
  have ht11 := HT6.out
  clear HR86 HR96 HV6 HT6 HF6 HB6
  refine store_next (i := 4) rfl rfl (by kernel_rfl) (by rfl) 102 _ _ rfl (w.heap.size + 1) sv rfl rfl 102 _ h8 (by rw [hsz]; exact Try.size102) (by rw [hsz]; rfl) hone ?_ (fun _ => ?_)
  · exact ⟨(setRow_otherW _ hb13.1 _).trans hv13, (setRow_otherW _ hb11.1 _).trans ht11⟩
  refine store_next (i := 5) rfl rfl (by kernel_rfl) (by rfl) 82 _ _ rfl (w.heap.size + 2) (packOf xs m) rfl rfl 82 _ h9 (by rw [packOf_size]; exact Try.size82) (by rw [packOf_size]; rfl) (packOf_one _ _) ?_ (fun _ => ?_)
  · exact ⟨(setRow_otherW _ hb13.2.1 _).trans ((setRow_otherW _ hb13.1 _).trans hv13), (setRow_otherW _ hb11.2 _).trans ((setRow_otherW _ hb11.1 _).trans ht11)⟩
  refine take_yes (i := 6) (some 10) (.bool (z == 1)) rfl rfl (by kernel_rfl) (by kernel_rfl) (by kernel_rfl) (fun _ _ _ h => h) (by rfl) ?_ (by assumption) ?_
  · intro W' hSw
    go_simp
  simp only [Act.put, List.setIfInBounds_toArray, List.set_cons_zero, List.set_cons_succ]
  refine wpAnyH_done (by kernel_rfl) ?_ _
  go_wp2_with fail
  refine bodyPost_ret (v := .tuple #[.agg sv, .agg (packOf xs m), .bool (z == 1)]) ?_ rfl HN.out
  exact sa_res Try.results78 _ _ (w.heap.size + 1) (w.heap.size + 2) _ _ _ rfl rfl rfl hsz ((setRow_otherW _ (by omega) _).trans (setRow_same h8 _)) (packOf_size _ _) (setRow_same h9 _)

end Go.Proofs.Ytegabkegbhglfaa


/- CanCome of both. -/
namespace Go.Proofs.Ytegabkegbhglfaa
open Go.RowKit
set_option maxRecDepth 10000

def caR (p : Int) (n : Nat) (L : List (List Int)) (ys : List Int) (bg : Int) (xs : List Int) : Bool := saOk p n L ys bg xs && decide (xs ∈ (spSea p n L ys bg).ms)

/-- How CanCome ends. -/
def CaEnd (p : Int) (n : Nat) (L : List (List Int)) (ys : List Int) (bg : Int) (xs : List Int) (w : World) (e : Ending) (w' : World) : Prop :=
  e = .returned (.tuple #[.bool (caR p n L ys bg xs), .bool (saOk p n L ys bg xs)]) ∧ Below w.heap.size w w'

theorem caEnd_no {p : Int} {n : Nat} {L : List (List Int)} {ys xs : List Int} {bg : Int} {w w' : World} (h : saOk p n L ys bg xs = false) (hb : Below w.heap.size w w') : CaEnd p n L ys bg xs w (.returned (.tuple #[.bool false, .bool false])) w' := by
  refine ⟨?_, hb⟩
  unfold caR; rw [h]; rfl

theorem caEnd_yes {p : Int} {n l : Nat} {L : List (List Int)} {ys xs : List Int} {bg : Int} {s : Sea} {w w' : World} (h : saOk p n L ys bg xs = true) (hs : SpOk p n l L ys bg s) (hb : Below w.heap.size w w') {b : Bool} (hx : decide (xs ∈ s.ms) = b) : CaEnd p n L ys bg xs w (.returned (.tuple #[.bool b, .bool true])) w' := by
  refine ⟨?_, hb⟩
  unfold caR; rw [h, hs.is, hx]; rfl

theorem saOk_parts {p : Int} {n : Nat} {L : List (List Int)} {ys xs : List Int} {bg : Int} (h : saOk p n L ys bg xs = true) : spCode p n L ys bg = 1 ∧ goodB p xs = true := by
  unfold saOk at h; rw [Bool.and_eq_true] at h; exact ⟨by simpa using h.1, h.2⟩
theorem saOk_code {p : Int} {n : Nat} {L : List (List Int)} {ys xs : List Int} {bg : Int} (h : spCode p n L ys bg ≠ 1) : saOk p n L ys bg xs = false := by unfold saOk; simp [h]
theorem saOk_good {p : Int} {n : Nat} {L : List (List Int)} {ys xs : List Int} {bg : Int} (h : goodB p xs = false) : saOk p n L ys bg xs = false := by unfold saOk; rw [h, Bool.and_false]
theorem saOk_yes {p : Int} {n : Nat} {L : List (List Int)} {ys xs : List Int} {bg : Int} (h : spCode p n L ys bg = 1) (hg : goodB p xs = true) : saOk p n L ys bg xs = true := by unfold saOk; rw [h, hg]; rfl

theorem SpOk.lens {p : Int} {n l : Nat} {L : List (List Int)} {ys : List Int} {bg : Int} {s : Sea} (h : SpOk p n l L ys bg s) : ∀ u ∈ s.ms, u.length = l := fun u hu => by
  have := (goodB_parts (h.ok.good u hu)).2.1
  have := h.hl
  omega

theorem wpList_lookQ {P : Program} {ops : Array Oper} {rest : List Oper} {op : Oper} {a : Act} {w : World} {Q : Exit → Act → World → Prop} (hgd : op.guard = none) (t : TypeId) (m x : Operand) (c : Bool) (ho : op.op = .lookup t m x c)
    (mv kv v : Value) (hm : a.eval m = mv) (hx : a.eval x = kv) (hr : (Instr.lookup t mv kv c).run P w = .ok v w)
    (h : wpList P ops Q rest (a.put op.dst v) w) : wpList P ops Q (op :: rest) a w := by
  refine wpList_plain hgd fun K hK => ?_
  have hr := exec_lookup t m x c ho mv kv v hm hx hr
  unfold Oper.wp
  rw [hr]
  exact hK _ _ h


set_option maxHeartbeats 1000000 in
theorem canS_any (p : Int) (a am ax : Option Addr) (n c nm cm nx cx : Nat) (L : List (List Int)) (ys xs : List Int) (bg : Int) (w : World) (h : Lists w a (3 * n) L) (rm : Row w am nm ys) (rx : Row w ax nx xs) (hs : sizeN n L ≤ 1048576) (hnm : nm ≤ 1048576) (hnx : nx ≤ 1048576) :
    Calls Try.prog 42 #[.agg #[.int .i64 p, .slice a n c], .slice am nm cm, .int .i64 bg, .slice ax nx cx] w fun e w' => CaEnd p n L ys bg xs w e w' := by
  have hAl := below_al w (.cells #[.int .i64 p, .slice a n c] 39)
  have HN0 := hide (heap_alloc_new w (.cells #[.int .i64 p, .slice a n c] 39))
  have HX := hide (all_any4 p a am n c nm cm L ys bg _ (h.below hAl) (rm.below hAl) hs hnm)
  have HX0 := hide (rx.below hAl)
  have HB0 := hide hAl
  clear h rm rx hAl
  go_enter Try.func42, Try.ntmps42
  go_wp2_with fail
  generalize w.alloc (.cells #[.int .i64 p, .slice a n c] 39) = v0 at *
  refine HX.out.mono ?_
  rintro e w1 ⟨hb1, hxx⟩
  have HN1 := hide (keep HN0.out hb1)
  have HX1 := hide (HX0.out.below hb1)
  have HB1 := hide (HB0.out.trans (hb1.mono HB0.out.size))
  clear hb1 HN0 HB0 HX HX0
  rcases hxx with ⟨hcode, s, ma, mc, aa, ac, hok, rfl, hmr, har⟩ | ⟨hcode, rfl⟩
  rotate_left
  · have HN := hide (caEnd_no (w := w) (saOk_code (xs := xs) hcode) (HB1.out.trans ((below_al w1 (.cells #[.slice none 0 0, .slice none 0 0] 44)).mono HB1.out.size)))
    clear hcode
    go_wp2_with fail
    go_ret2
    exact HN.out
  have hA3 := below_al w1 (.cells #[.slice ma s.ms.length mc, .slice aa s.ar.length ac] 44)
  have HB3 := hide (HB1.out.trans (hA3.mono HB1.out.size))
  have HN3 := hide (keep HN1.out hA3)
  have HX3 := hide (HX1.out.below hA3)
  have HG := hide (goodS_any p ax nx cx xs _ HX3.out hnx)
  obtain ⟨hc0, hc1⟩ := cells2 HN3.out
  have hl16 := hok.l16
  have HM3 := hide ((hmr.go hA3).lists (show nm ≤ maxLen by unfold maxLen; omega))
  have HS3 := hide (heap_alloc_new w1 (.cells #[.slice ma s.ms.length mc, .slice aa s.ar.length ac] 44))
  have hmx : s.ms.length ≤ 1048576 := by have := hok.m4; omega
  have HFI := hide (find_any ma ax s.ms.length mc nx cx s.ms xs _ HM3.out HX3.out hmx hnx)
  clear hA3 hmr har HB1 HN1 HX1
  by_cases hq : goodB p xs = true
  rotate_left
  · have hq' : goodB p xs = false := by simpa using hq
    have HN := hide (caEnd_no (w := w) (saOk_good (n := n) (L := L) (ys := ys) (bg := bg) hq') HB3.out)
    rw [hq'] at HG
    clear hq HFI
    go_wp2_with (go_at_call 49; refine HG.out.mono ?_; rintro e w' ⟨rfl, rfl⟩)
    go_ret2
    exact HN.out
  rw [hq] at HG
  have HOK := hide hok
  have hso := saOk_yes hcode hq
  clear hcode hok
  obtain ⟨hs0, hs1⟩ := cells2 HS3.out
  by_cases hin : xs ∈ s.ms
  · have HN := hide (fun W (hW : Below w.heap.size w W) => caEnd_yes (w := w) hso HOK.out hW (decide_eq_true hin))
    unfold findL at HFI
    rw [if_pos hin] at HFI
    have hpos : (0 : Int) ≤ (s.ms.idxOf xs : Int) := by omega
    clear hin hso
    generalize s.ms.idxOf xs = ix at *
    go_wp2_with (go_at_call 49; refine HG.out.mono ?_; rintro e w' ⟨rfl, rfl⟩)
    refine HFI.out.mono ?_
    rintro e w2 ⟨rfl, q, rfl⟩
    have HY := hide (HN.out _ (HB3.out.trans ((below_drewN' _ q).mono HB3.out.size)))
    go_wp2_with fail
    go_ret2
    exact HY.out
  · have HN := hide (fun W (hW : Below w.heap.size w W) => caEnd_yes (w := w) hso HOK.out hW (decide_eq_false hin))
    unfold findL at HFI
    rw [if_neg hin] at HFI
    clear hin hso
    go_wp2_with (go_at_call 49; refine HG.out.mono ?_; rintro e w' ⟨rfl, rfl⟩)
    refine HFI.out.mono ?_
    rintro e w2 ⟨rfl, q, rfl⟩
    have HY := hide (HN.out _ (HB3.out.trans ((below_drewN' _ q).mono HB3.out.size)))
    go_wp2_with fail
    go_ret2
    exact HY.out

set_option maxHeartbeats 1000000 in
theorem canI_any (p : Int) (a am ax : Option Addr) (n c nm cm nx cx : Nat) (L : List (List Int)) (ys xs : List Int) (bg : Int) (w : World) (h : Lists w a (3 * n) L) (rm : Row w am nm ys) (rx : Row w ax nx xs) (hs : sizeN n L ≤ 1048576) (hnm : nm ≤ 1048576) (hnx : nx ≤ 1048576) :
    Calls Try.prog 26 #[.agg #[.int .i64 p, .slice a n c], .slice am nm cm, .int .i64 bg, .slice ax nx cx] w fun e w' => CaEnd p n L ys bg xs w e w' := by
  have hAl := below_al w (.cells #[.int .i64 p, .slice a n c] 39)
  have HX := hide (spaceTok_any p a am ax n c nm cm nx cx L ys xs bg _ (h.below hAl) (rm.below hAl) (rx.below hAl) hs hnm hnx)
  have HLX := hide rx.1
  have HB0 := hide hAl
  clear h rm rx hAl
  go_enter Try.func26, Try.ntmps26
  go_wp2_with fail
  generalize w.alloc (.cells #[.int .i64 p, .slice a n c] 39) = v0 at *
  refine HX.out.mono ?_
  rintro e w1 ⟨hb1, hxx⟩
  have HB1 := hide (HB0.out.trans (hb1.mono HB0.out.size))
  clear hb1 HB0 HX
  obtain ⟨sv, hsv⟩ : ∃ sv, sv = spZ := ⟨_, rfl⟩
  have hA3 := (below_al w1 (.cells spZ 102)).trans ((below_al (w1.alloc (.cells spZ 102)) (.cells #[.int .u8 0, .int .u8 0, .int .u8 0, .int .u8 0, .int .u8 0, .int .u8 0, .int .u8 0, .int .u8 0, .int .u8 0, .int .u8 0, .int .u8 0, .int .u8 0, .int .u8 0, .int .u8 0, .int .u8 0, .int .u8 0] 82)).mono (by simp))
  have hg0 := keep (heap_alloc_new w1 (.cells spZ 102)) (below_al (w1.alloc (.cells spZ 102)) (.cells #[.int .u8 0, .int .u8 0, .int .u8 0, .int .u8 0, .int .u8 0, .int .u8 0, .int .u8 0, .int .u8 0, .int .u8 0, .int .u8 0, .int .u8 0, .int .u8 0, .int .u8 0, .int .u8 0, .int .u8 0, .int .u8 0] 82))
  have hg1 := heap_alloc2_new w1 (.cells spZ 102) (.cells #[.int .u8 0, .int .u8 0, .int .u8 0, .int .u8 0, .int .u8 0, .int .u8 0, .int .u8 0, .int .u8 0, .int .u8 0, .int .u8 0, .int .u8 0, .int .u8 0, .int .u8 0, .int .u8 0, .int .u8 0, .int .u8 0] 82)
  rcases hxx with ⟨hso, s, B, BS, mb, G, aa, ac, hok, hst, rfl⟩ | ⟨hso, k, rfl⟩
  rotate_left
  · have hg1s := (setRow_otherW _ (show w1.heap.size + 1 ≠ w1.heap.size by omega) spZ).trans hg1
    have HN := hide (caEnd_no (w := w) hso (below_setRow (below_setRow (HB1.out.trans (hA3.mono HB1.out.size)) w1.heap.size HB1.out.size spZ) (w1.heap.size + 1) (by have := HB1.out.size; omega) (packOf xs k)))
    clear hso hA3
    go_wp2_with (first
      | ((show wpList _ _ _ (⟨none, .store 102 (.tmp 10) (.tmp 21), _, _, _, _⟩ :: _) _ _); refine wpList_store_row rfl 102 _ _ rfl _ _ rfl rfl 102 _ hg0 Try.size102 rfl spZ_one ?_)
      | ((show wpList _ _ _ (⟨none, .store 82 (.tmp 11) (.tmp 22), _, _, _, _⟩ :: _) _ _); refine wpList_store_row rfl 82 _ _ rfl _ _ rfl rfl 82 _ hg1s (by rw [packOf_size]; exact Try.size82) (by rw [packOf_size]; rfl) (packOf_one _ _) ?_))
    go_ret2
    exact HN.out
  obtain ⟨hcode, hgx⟩ := saOk_parts hso
  have hlx : xs.length = nx := HLX.out
  have hlp := (goodB_parts hgx).2.1
  have hnn : nx = nm := by have := hok.hl; omega
  have hg1s := (setRow_otherW _ (show w1.heap.size + 1 ≠ w1.heap.size by omega) (spV p n BS mb G s.ms.length (.slice aa s.ar.length ac))).trans hg1
  have hV := below_setRow (below_setRow hA3 w1.heap.size (Nat.le_refl _) (spV p n BS mb G s.ms.length (.slice aa s.ar.length ac))) (w1.heap.size + 1) (Nat.le_succ _) (packOf xs nx)
  have HB3 := hide (HB1.out.trans (hV.mono HB1.out.size))
  have HMAP := hide ((hst.grow hV).map)
  have hz1 := setRow_same hg0 (spV p n BS mb G s.ms.length (.slice aa s.ar.length ac))
  have HV3 := hide ((setRow_otherW _ (show w1.heap.size ≠ w1.heap.size + 1 by omega) (packOf xs nx)).trans hz1)
  have hg11 := setRow_same hg1s (packOf xs nx)
  have hlk := run_lookTok (l := nm) (m := xs) hok.l16 (by omega) hok.lens HMAP.out true
  rw [if_pos rfl] at hlk
  have HOK := hide hok
  obtain ⟨⟨hc0, hc1, hc2, hc3, hc4⟩, _⟩ := cells5 HV3.out
  subst hnn
  clear hA3 hV hst HB1 hcode hgx hlx hlp hok hz1
  obtain ⟨ix, hix⟩ : ∃ ix : Int, (if xs ∈ s.ms then (s.ms.idxOf xs : Int) else 0) = ix := ⟨_, rfl⟩
  obtain ⟨bx, hbx⟩ : ∃ b, decide (xs ∈ s.ms) = b := ⟨_, rfl⟩
  rw [hix, hbx] at hlk
  have HN := hide (caEnd_yes (w := w) hso HOK.out HB3.out hbx)
  clear hix hbx hso
  go_wp2_with (first
    | ((show wpList _ _ _ (⟨none, .store 102 (.tmp 10) (.tmp 21), _, _, _, _⟩ :: _) _ _); refine wpList_store_row rfl 102 _ _ rfl _ _ rfl rfl 102 _ hg0 Try.size102 rfl (spV_one _ _ _ _ _ _ _ _ _) ?_)
    | ((show wpList _ _ _ (⟨none, .store 82 (.tmp 11) (.tmp 22), _, _, _, _⟩ :: _) _ _); refine wpList_store_row rfl 82 _ _ rfl _ _ rfl rfl 82 _ hg1s (by rw [packOf_size]; exact Try.size82) (by rw [packOf_size]; rfl) (packOf_one _ _) ?_)
    | ((show wpList _ _ _ (⟨some 29, .load 82 (.tmp 11), _, _, _, _⟩ :: _) _ _); refine wpList_load_row rfl 82 (.tmp 11) rfl _ rfl 82 (packOf xs nx) (0, 0) _ hg11 Try.underlying82 rfl (by rw [packOf_size]; exact Try.size82) ?_)
    | ((show wpList _ _ _ (⟨some 30, .lookup 100 (.tmp 28) (.tmp 29) true, _, _, _, _⟩ :: _) _ _); refine wpList_lookQ rfl 100 (.tmp 28) (.tmp 29) true rfl _ _ _ rfl rfl hlk ?_))
  go_ret2
  exact HN.out

end Go.Proofs.Ytegabkegbhglfaa
