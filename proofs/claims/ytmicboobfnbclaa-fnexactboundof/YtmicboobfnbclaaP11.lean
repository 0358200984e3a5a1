/- Contracts that the proof stands on, one behind the other. -/
import Derived.Test.YtmicboobfnbclaaP10
/- BoundOf, the program's and the specification's, for every net, list, budget and place in memory. -/
namespace Go.Proofs.Ytmicboobfnbclaa
open Go.RowKit
set_option maxRecDepth 10000

/-- The space that is told. -/
def spSea (p : Int) (n : Nat) (L : List (List Int)) (ys : List Int) (bg : Int) : Sea := endS (searchS p n L bg.toNat ys)

theorem SpOk.is {p : Int} {n l : Nat} {L : List (List Int)} {ys : List Int} {bg : Int} {s : Sea} (h : SpOk p n l L ys bg s) : spSea p n L ys bg = s := by unfold spSea; rw [h.sea]; rfl

theorem SpOk.goodAt {p : Int} {n l : Nat} {L : List (List Int)} {ys : List Int} {bg : Int} {s : Sea} (h : SpOk p n l L ys bg s) {k : Nat} (hk : k < s.ms.length) : (s.ms.getD k []).length = l ∧ ∀ i, 0 ≤ (s.ms.getD k []).getD i 0 ∧ (s.ms.getD k []).getD i 0 ≤ 50 := by
  obtain ⟨h1, h2, h3⟩ := goodB_parts (h.ok.goodAt hk)
  have := h.hl
  exact ⟨by omega, h3⟩

theorem SpOk.l16 {p : Int} {n l : Nat} {L : List (List Int)} {ys : List Int} {bg : Int} {s : Sea} (h : SpOk p n l L ys bg s) : l ≤ 16 := by have := h.hl; have := h.hp; omega
theorem SpOk.m4 {p : Int} {n l : Nat} {L : List (List Int)} {ys : List Int} {bg : Int} {s : Sea} (h : SpOk p n l L ys bg s) : s.ms.length ≤ 400 := Nat.le_trans h.ok.le h.b4

def mostQ (a b : Int) : Int := if b < a then a else b

theorem mostQ_any (a b : Int) (w : World) : Calls Try.prog 59 #[.int .i64 a, .int .i64 b] w fun e w' => e = .returned (.int .i64 (mostQ a b)) ∧ w' = w := by
  unfold mostQ
  by_cases h : b < a
  · rw [if_pos h]
    go_enter Try.func59, Try.ntmps59
    go_wp2_with fail
    go_ret
    exact ⟨rfl, rfl⟩
  · rw [if_neg h]
    go_enter Try.func59, Try.ntmps59
    go_wp2_with fail
    go_ret
    exact ⟨rfl, rfl⟩

/-- The greatest number of a place among the first k marks. -/
def bdK (ms : List (List Int)) (q k : Nat) : Int := (ms.take k).foldl (fun b m => mostQ b (m.getD q 0)) 0

theorem bdK_succ {ms : List (List Int)} {q k : Nat} (hk : k < ms.length) : bdK ms q (k + 1) = mostQ (bdK ms q k) ((ms.getD k []).getD q 0) := by
  unfold bdK
  rw [List.take_add_one, List.getElem?_eq_getElem hk, List.foldl_append]
  simp only [Option.toList_some, List.foldl_cons, List.foldl_nil]
  rw [show ms.getD k [] = ms[k] by rw [List.getD_eq_getElem?_getD, List.getElem?_eq_getElem hk]; rfl]

def bdOk (p : Int) (n : Nat) (L : List (List Int)) (ys : List Int) (bg q : Int) : Bool := decide (spCode p n L ys bg = 1) && inB q 0 (p - 1)
def bdR (p : Int) (n : Nat) (L : List (List Int)) (ys : List Int) (bg q : Int) : Int := if bdOk p n L ys bg q then bdK (spSea p n L ys bg).ms q.toNat (spSea p n L ys bg).ms.length else 0

/-- How BoundOf ends. -/
def BdEnd (p : Int) (n : Nat) (L : List (List Int)) (ys : List Int) (bg q : Int) (w : World) (e : Ending) (w' : World) : Prop :=
  e = .returned (.tuple #[.int .i64 (bdR p n L ys bg q), .bool (bdOk p n L ys bg q)]) ∧ Below w.heap.size w w'

theorem bdEnd_no {p : Int} {n : Nat} {L : List (List Int)} {ys : List Int} {bg q : Int} {w w' : World} (h : bdOk p n L ys bg q = false) (hb : Below w.heap.size w w') : BdEnd p n L ys bg q w (.returned (.tuple #[.int .i64 0, .bool false])) w' := by
  refine ⟨?_, hb⟩
  unfold bdR; rw [h]; rfl

theorem bdEnd_yes {p : Int} {n l : Nat} {L : List (List Int)} {ys : List Int} {bg : Int} {q : Nat} {s : Sea} {w w' : World} (hc : spCode p n L ys bg = 1) (hq : inB (q : Int) 0 (p - 1) = true) (hs : SpOk p n l L ys bg s) (hb : Below w.heap.size w w') : BdEnd p n L ys bg (q : Int) w (.returned (.tuple #[.int .i64 (bdK s.ms q s.ms.length), .bool true])) w' := by
  refine ⟨?_, hb⟩
  have h : bdOk p n L ys bg (q : Int) = true := by unfold bdOk; rw [hq, hc]; rfl
  unfold bdR; rw [h, if_pos rfl, hs.is, Int.toNat_natCast]

theorem bdOk_code {p : Int} {n : Nat} {L : List (List Int)} {ys : List Int} {bg q : Int} (h : spCode p n L ys bg ≠ 1) : bdOk p n L ys bg q = false := by unfold bdOk; simp [h]
theorem bdOk_place {p : Int} {n : Nat} {L : List (List Int)} {ys : List Int} {bg q : Int} (h : inB q 0 (p - 1) = false) : bdOk p n L ys bg q = false := by unfold bdOk; rw [h, Bool.and_false]

theorem bdK_small {ms : List (List Int)} {q : Nat} (h : ∀ k, k < ms.length → 0 ≤ (ms.getD k []).getD q 0 ∧ (ms.getD k []).getD q 0 ≤ 50) : ∀ k, k ≤ ms.length → 0 ≤ bdK ms q k ∧ bdK ms q k ≤ 50 := by
  intro k
  induction k with
  | zero => intro _; simp [bdK]
  | succ k ih =>
    intro hk
    have := ih (by omega)
    have := h k (by omega)
    rw [bdK_succ (by omega)]
    unfold mostQ
    split <;> omega


set_option maxHeartbeats 1000000 in
theorem boundS_any (p : Int) (a am : Option Addr) (n c nm cm : Nat) (L : List (List Int)) (ys : List Int) (bg q : Int) (w : World) (h : Lists w a (3 * n) L) (rm : Row w am nm ys) (hs : sizeN n L ≤ 1048576) (hnm : nm ≤ 1048576) :
    Calls Try.prog 30 #[.agg #[.int .i64 p, .slice a n c], .slice am nm cm, .int .i64 bg, .int .i64 q] w fun e w' => BdEnd p n L ys bg q w e w' := by
  have hAl := below_al w (.cells #[.int .i64 p, .slice a n c] 35)
  have HN0 := hide (heap_alloc_new w (.cells #[.int .i64 p, .slice a n c] 35))
  have HX := hide (all_any4 p a am n c nm cm L ys bg _ (h.below hAl) (rm.below hAl) hs hnm)
  have HB0 := hide hAl
  clear h rm hAl
  go_enter Try.func30, Try.ntmps30
  go_wp2_with fail
  generalize w.alloc (.cells #[.int .i64 p, .slice a n c] 35) = v0 at *
  refine HX.out.mono ?_
  rintro e w1 ⟨hb1, hxx⟩
  have HN1 := hide (keep HN0.out hb1)
  have HB1 := hide (HB0.out.trans (hb1.mono HB0.out.size))
  clear hb1 HN0 HB0 HX
  rcases hxx with ⟨hcode, s, ma, mc, aa, ac, hok, rfl, hmr, har⟩ | ⟨hcode, rfl⟩
  rotate_left
  · have HN := hide (bdEnd_no (w := w) (bdOk_code (q := q) hcode) (HB1.out.trans ((below_al w1 (.cells #[.slice none 0 0, .slice none 0 0] 30)).mono HB1.out.size)))
    clear hcode
    go_wp2_with fail
    go_ret2
    exact HN.out
  have hA3 := below_al w1 (.cells #[.slice ma s.ms.length mc, .slice aa s.ar.length ac] 30)
  have HB3 := hide (HB1.out.trans (hA3.mono HB1.out.size))
  have HN3 := hide (keep HN1.out hA3)
  obtain ⟨hc0, hc1⟩ := cells2 HN3.out
  have HM3 := hide (hmr.go hA3)
  have HS3 := hide (heap_alloc_new w1 (.cells #[.slice ma s.ms.length mc, .slice aa s.ar.length ac] 30))
  have hp := hok.hp
  have hmx : ((s.ms.length : Nat) : Int) ≤ 400 := by have := hok.m4; omega
  clear hA3 hmr har HB1 HN1
  by_cases hq : inB q 0 (p - 1) = true
  rotate_left
  · have hq' : inB q 0 (p - 1) = false := by simpa using hq
    have HN := hide (bdEnd_no (w := w) (bdOk_place (n := n) (L := L) (ys := ys) (bg := bg) hq') HB3.out)
    clear hq
    go_wp2_with (go_at_call 58; refine (in_any _ _ _ _).mono ?_; rintro e w' ⟨rfl, rfl⟩)
    go_ret2
    exact HN.out
  have hqq : 0 ≤ q ∧ q ≤ p - 1 := by simpa [inB] using hq
  obtain ⟨qn, rfl⟩ : ∃ qn : Nat, q = (qn : Int) := ⟨q.toNat, by omega⟩
  have HY := hide (fun W (hW : Below w.heap.size w W) => bdEnd_yes (w := w) hcode hq hok hW)
  have HSM := hide (bdK_small (ms := s.ms) (q := qn) (fun k hk => (hok.goodAt hk).2 qn))
  have HOK := hide hok
  have hl := hok.hl
  clear hcode hok
  obtain ⟨hs0, hs1⟩ := cells2 HS3.out
  go_wp2_with (go_at_call 58; refine (in_any _ _ _ _).mono ?_; rintro e w' ⟨rfl, rfl⟩)
  generalize w1.alloc (.cells #[.slice ma s.ms.length mc, .slice aa s.ar.length ac] 30) = v3 at *
  clear hs0 hs1 hc0 hc1
  go_loop [12, 35] (fun t i => ∃ k : Nat, k ≤ s.ms.length ∧ i = .int .i64 k ∧ t = .int .i64 (bdK s.ms qn k)) (fun _ i => s.ms.length - (intOf i).toNat)
  case atStart => exact ⟨0, Nat.zero_le _, rfl, rfl⟩
  case round =>
    obtain ⟨k, hk, rfl, rfl⟩ := hrel
    by_cases hlt : k < s.ms.length
    rotate_left
    · have hk' : k = s.ms.length := by omega
      subst hk'
      go_wp2_with fail
      go_ret2
      exact HY.out _ HB3.out
    obtain ⟨mb, mg, mgc, rfl, hmb, hmc, hmr⟩ := HM3.out.at_ hlt
    have hgl := (HOK.out.goodAt hlt).1
    obtain ⟨b1, o1, x, he1, hb1, hc1, H1⟩ := hmr.row.at (show qn < nm by omega)
    have hx : x = (s.ms.getD k []).getD qn 0 := by rw [List.getD_eq_getElem?_getD, H1.out]; rfl
    subst hx
    obtain ⟨rfl, rfl⟩ : mg = b1 ∧ 0 = o1 := by
      simp only [Option.some.injEq, Addr.mk.injEq, and_true] at he1
      exact he1
    have HN := hide (bdK_succ (q := qn) hlt)
    have hki : (k : Int) < ((s.ms.length : Nat) : Int) := by omega
    have hk0 : (0 : Int) ≤ (k : Int) := by omega
    have hqi : (qn : Int) < (nm : Int) := by omega
    have hq0 : (0 : Int) ≤ (qn : Int) := by omega
    rw [Nat.zero_add] at hc1
    obtain ⟨x, hxq⟩ : ∃ x, Hid ((s.ms.getD k []).getD qn 0 = x) := ⟨_, rfl⟩
    obtain ⟨y, hyq⟩ : ∃ y, Hid (bdK s.ms qn k = y) := ⟨_, rfl⟩
    rw [hxq.out] at hc1 HN
    rw [hyq.out] at HN ⊢
    clear he1 H1 hmr hgl
    go_wp2_with (go_at_call 59; refine (mostQ_any _ _ _).mono ?_; rintro e w' ⟨rfl, rfl⟩)
    go_round
    case rel => exact ⟨k + 1, by omega, by go_num, by rw [HN.out]⟩
    case measure => simp [intOf]; omega

set_option maxHeartbeats 1000000 in
theorem boundI_any (p : Int) (a am : Option Addr) (n c nm cm : Nat) (L : List (List Int)) (ys : List Int) (bg q : Int) (w : World) (h : Lists w a (3 * n) L) (rm : Row w am nm ys) (hs : sizeN n L ≤ 1048576) (hnm : nm ≤ 1048576) :
    Calls Try.prog 31 #[.agg #[.int .i64 p, .slice a n c], .slice am nm cm, .int .i64 bg, .int .i64 q] w fun e w' => BdEnd p n L ys bg q w e w' := by
  have hAl := below_al w (.cells #[.int .i64 p, .slice a n c] 35)
  have HX := hide (spaceOf_any p a am n c nm cm L ys bg _ (h.below hAl) (rm.below hAl) hs hnm)
  have HB0 := hide hAl
  clear h rm hAl
  go_enter Try.func31, Try.ntmps31
  go_wp2_with fail
  generalize w.alloc (.cells #[.int .i64 p, .slice a n c] 35) = v0 at *
  refine HX.out.mono ?_
  rintro e w1 ⟨hb1, hxx⟩
  have HB1 := hide (HB0.out.trans (hb1.mono HB0.out.size))
  clear hb1 HB0 HX
  have hg0 := heap_alloc_new w1 (.cells spZ 65)
  have hA3 := below_al w1 (.cells spZ 65)
  rcases hxx with ⟨hcode, s, BS, mb, G, av, hok, hst, ⟨aa, ac, rfl⟩, rfl⟩ | ⟨hcode, rfl⟩
  rotate_left
  · have HN := hide (bdEnd_no (w := w) (bdOk_code (q := q) hcode) (below_setRow (HB1.out.trans (hA3.mono HB1.out.size)) w1.heap.size HB1.out.size spZ))
    obtain ⟨cd, hcd⟩ : ∃ cd, Hid (spCode p n L ys bg = cd) := ⟨_, rfl⟩
    rw [hcd.out] at hcode ⊢
    have hc1 : ¬ ((cd : Nat) : Int) = 1 := by omega
    have hbe : (((cd : Nat) : Int) != 1) = true := by simpa using hc1
    clear hcode hcd hA3
    go_wp2_with ((show wpList _ _ _ (⟨none, .store 65 (.tmp 10) (.tmp 20), _, _, _, _⟩ :: _) _ _); refine wpList_store_row rfl 65 _ _ rfl _ _ rfl rfl 65 _ hg0 Try.size65 rfl (one5 rfl rfl rfl rfl rfl) ?_)
    go_ret2
    exact HN.out
  have hV := below_setRow hA3 w1.heap.size (Nat.le_refl _) (spV p n BS mb G s.ms.length (.slice aa s.ar.length ac))
  have HB3 := hide (HB1.out.trans (hV.mono HB1.out.size))
  have HS3 := hide (hst.grow hV)
  have HV3 := hide (setRow_same hg0 (spV p n BS mb G s.ms.length (.slice aa s.ar.length ac)))
  have hp := hok.hp
  have hm4 := hok.m4
  have hl := hok.hl
  clear hA3 hV hst HB1
  obtain ⟨⟨hc0, hc1, hc2, hc3, hc4⟩, _⟩ := cells5 HV3.out
  have HLK := hide (lacksT_any p q (some ⟨BS, 0, none⟩) n n ((w1.alloc (.cells spZ 65)).setRow w1.heap.size (spV p n BS mb G s.ms.length (.slice aa s.ar.length ac))))
  have hne : ((1 : Int) != 1) = false := by decide
  by_cases hq : inB q 0 (p - 1) = true
  rotate_left
  · have hq' : inB q 0 (p - 1) = false := by simpa using hq
    have HN := hide (fun W (hW : Below w.heap.size w W) => bdEnd_no (w := w) (bdOk_place (n := n) (L := L) (ys := ys) (bg := bg) hq') hW)
    rw [hq'] at HLK
    clear hq hq'
    go_wp2_with ((show wpList _ _ _ (⟨none, .store 65 (.tmp 10) (.tmp 20), _, _, _, _⟩ :: _) _ _); refine wpList_store_row rfl 65 _ _ rfl _ _ rfl rfl 65 _ hg0 Try.size65 rfl (one5 rfl rfl rfl rfl rfl) ?_)
    refine HLK.out.mono ?_
    rintro e w2 ⟨rfl, hb2⟩
    have HY := hide (HN.out _ (HB3.out.trans (hb2.mono HB3.out.size)))
    clear hb2
    go_wp2_with fail
    go_ret2
    exact HY.out
  have hqq : 0 ≤ q ∧ q ≤ p - 1 := by simpa [inB] using hq
  obtain ⟨qn, rfl⟩ : ∃ qn : Nat, q = (qn : Int) := ⟨q.toNat, by omega⟩
  have HY := hide (fun W (hW : Below w.heap.size w W) => bdEnd_yes (w := w) hcode hq hok hW)
  have HSM := hide (bdK_small (ms := s.ms) (q := qn) (fun k hk => (hok.goodAt hk).2 qn))
  have HOK := hide hok
  rw [hq] at HLK
  clear hcode hok hq
  go_wp2_with ((show wpList _ _ _ (⟨none, .store 65 (.tmp 10) (.tmp 20), _, _, _, _⟩ :: _) _ _); refine wpList_store_row rfl 65 _ _ rfl _ _ rfl rfl 65 _ hg0 Try.size65 rfl (one5 rfl rfl rfl rfl rfl) ?_)
  clear hg0
  generalize (w1.alloc (.cells spZ 65)).setRow w1.heap.size (spV p n BS mb G s.ms.length (.slice aa s.ar.length ac)) = v3 at *
  refine HLK.out.mono ?_
  rintro e w2 ⟨rfl, hb2⟩
  have HB4 := hide (HB3.out.trans (hb2.mono HB3.out.size))
  have HS4 := hide (HS3.out.grow hb2)
  have HV4 := hide (keep HV3.out hb2)
  clear hc0 hc1 hc2 hc3 hc4 hb2 HB3 HS3 HV3 HLK
  obtain ⟨⟨hc0, hc1, hc2, hc3, hc4⟩, _⟩ := cells5 HV4.out
  have hmx : ((s.ms.length : Nat) : Int) ≤ 400 := by omega
  go_wp2_with fail
  clear hc0 hc1 hc2 hc3 hc4 HV4
  have HT4 := hide HS4.out.toks
  go_loopw [12, 33] (fun t i wr => ∃ k : Nat, k ≤ s.ms.length ∧ i = .int .i64 k ∧ t = .int .i64 (bdK s.ms qn k) ∧ Hid (Below w.heap.size w wr ∧ TokAll wr G nm s.ms)) (fun _ i _ => s.ms.length - (intOf i).toNat)
  case atStart => exact ⟨0, Nat.zero_le _, rfl, rfl, HB4.out, HT4.out⟩
  case round =>
    obtain ⟨k, hk, rfl, rfl, hbt⟩ := hrel
    by_cases hlt : k < s.ms.length
    rotate_left
    · have hk' : k = s.ms.length := by omega
      subst hk'
      go_wp2_with fail
      go_ret2
      exact HY.out _ hbt.out.1
    have hrg := hbt.out.2.cells k hlt
    have hsm := HSM.out k hk
    have hgd := (HOK.out.goodAt hlt).2 qn
    have HN := hide (bdK_succ (q := qn) hlt)
    have hki : (k : Int) < ((s.ms.length : Nat) : Int) := by omega
    have hk0 : (0 : Int) ≤ (k : Int) := by omega
    have hq16 : (qn : Int) < 16 := by omega
    have hq0 : (0 : Int) ≤ (qn : Int) := by omega
    obtain ⟨m, hmq⟩ : ∃ m, Hid (s.ms.getD k [] = m) := ⟨_, rfl⟩
    rw [hmq.out] at hrg hgd HN
    have hgw := heap_alloc_new wr (.cells #[.int .u8 0, .int .u8 0, .int .u8 0, .int .u8 0, .int .u8 0, .int .u8 0, .int .u8 0, .int .u8 0, .int .u8 0, .int .u8 0, .int .u8 0, .int .u8 0, .int .u8 0, .int .u8 0, .int .u8 0, .int .u8 0] 80)
    have hbx := below_setRow (below_al wr (.cells #[.int .u8 0, .int .u8 0, .int .u8 0, .int .u8 0, .int .u8 0, .int .u8 0, .int .u8 0, .int .u8 0, .int .u8 0, .int .u8 0, .int .u8 0, .int .u8 0, .int .u8 0, .int .u8 0, .int .u8 0, .int .u8 0] 80)) wr.heap.size (Nat.le_refl _) (packOf m nm)
    have hcq : ((wr.alloc (.cells #[.int .u8 0, .int .u8 0, .int .u8 0, .int .u8 0, .int .u8 0, .int .u8 0, .int .u8 0, .int .u8 0, .int .u8 0, .int .u8 0, .int .u8 0, .int .u8 0, .int .u8 0, .int .u8 0, .int .u8 0, .int .u8 0] 80)).setRow wr.heap.size (packOf m nm)).cell? ⟨wr.heap.size, qn, none⟩ = some (.int .u8 (m.getD qn 0)) := by
      rw [cell_of_row _ wr.heap.size qn _ _ _ (setRow_same hgw (packOf m nm)), packOf_at _ _ _ (by omega), if_pos (by omega)]
    have HBT : Hid (Below w.heap.size w ((wr.alloc (.cells #[.int .u8 0, .int .u8 0, .int .u8 0, .int .u8 0, .int .u8 0, .int .u8 0, .int .u8 0, .int .u8 0, .int .u8 0, .int .u8 0, .int .u8 0, .int .u8 0, .int .u8 0, .int .u8 0, .int .u8 0, .int .u8 0] 80)).setRow wr.heap.size (packOf m nm)) ∧ TokAll ((wr.alloc (.cells #[.int .u8 0, .int .u8 0, .int .u8 0, .int .u8 0, .int .u8 0, .int .u8 0, .int .u8 0, .int .u8 0, .int .u8 0, .int .u8 0, .int .u8 0, .int .u8 0, .int .u8 0, .int .u8 0, .int .u8 0, .int .u8 0] 80)).setRow wr.heap.size (packOf m nm)) G nm s.ms) :=
      ⟨hbt.out.1.trans (hbx.mono hbt.out.1.size), hbt.out.2.grow hbx⟩
    obtain ⟨x, hxq⟩ : ∃ x, Hid (m.getD qn 0 = x) := ⟨_, rfl⟩
    obtain ⟨y, hyq⟩ : ∃ y, Hid (bdK s.ms qn k = y) := ⟨_, rfl⟩
    rw [hxq.out] at hcq HN hgd
    rw [hyq.out] at HN hsm ⊢
    clear hbx hbt
    go_wp2_with (first
      | ((show wpList _ _ _ (⟨some 36, .load 80 (.tmp 35), _, _, _, _⟩ :: _) _ _); refine wpList_load_tokQ rfl (.tmp 35) rfl G (k * 16) rfl nm m hrg ?_)
      | ((show wpList _ _ _ (⟨none, .store 80 (.tmp 14) (.tmp 36), _, _, _, _⟩ :: _) _ _); refine wpList_store_row rfl 80 _ _ rfl _ _ rfl rfl 80 _ hgw (by rw [packOf_size]; exact Try.size80) (by rw [packOf_size]; rfl) (packOf_one _ _) ?_))
    have HMX : Hid ((if y < x then x else y) = mostQ y x) := by show _ = _; unfold mostQ; split <;> split <;> omega
    go_roundw
    case rel => exact ⟨k + 1, by omega, by go_num, by rw [HN.out, HMX.out], HBT⟩
    case measure => simp [intOf]; omega
end Go.Proofs.Ytmicboobfnbclaa
