/- Contracts that the proof stands on, one behind the other. -/
import Derived.Test.YtakenobplljkbabP10
/- BoundOf, the program's and the specification's, for every net, list, budget and place in memory. -/
namespace Go.Proofs.Ytakenobplljkbab
open Go.RowKit
set_option maxRecDepth 10000

/-- The space that is told. -/
def spSea (p : Int) (n : Nat) (L : List (List Int)) (ys : List Int) (bg : Int) : Sea := endS (searchS p n L bg.toNat ys)

theorem SpOk.is {p : Int} {n l : Nat} {L : List (List Int)} {ys : List Int} {bg : Int} {s : Sea} (h : SpOk p n l L ys bg s) : spSea p n L ys bg = s := by unfold spSea; rw [h.sea]; rfl

theorem SpOk.goodAt {p : Int} {n l : Nat} {L : List (List Int)} {ys : List Int} {bg : Int} {s : Sea} (h : SpOk p n l L ys bg s) {k : Nat} (hk : k < s.ms.length) : (s.ms.getD k []).length = l ∧ ∀ i, 0 ≤ (s.ms.getD k []).getD i 0 ∧ (s.ms.getD k []).getD i 0 ≤ 50 := by
  obtain ⟨h1, h2, h3⟩ := goodB_parts (h.ok.goodAt hk)
  have := h.hl
  exact ⟨by omega, h3⟩

theorem SpOk.l16 {p : Int} {n l : Nat} {L : List (List Int)} {ys : List Int} {bg : Int} {s : Sea} (h : SpOk p n l L ys bg s) : l ≤ 16 := by have := h.hl; have := h.hp; omega
theorem SpOk.m4 {p : Int} {n l : Nat} {L : List (List Int)} {ys : List Int} {bg : Int} {s : Sea} (h : SpOk p n l L ys bg s) : s.ms.length ≤ 400 := Nat.le_trans h.ok.le h.b4

def mostQ (a b : Int) : Int := if b < a then a else b


/-- The greatest number of a place among the first k marks. -/
def bdK (ms : List (List Int)) (q k : Nat) : Int := (ms.take k).foldl (fun b m => mostQ b (m.getD q 0)) 0

theorem bdK_succ {ms : List (List Int)} {q k : Nat} (hk : k < ms.length) : bdK ms q (k + 1) = mostQ (bdK ms q k) ((ms.getD k []).getD q 0) := by
  unfold bdK
  rw [List.take_add_one, List.getElem?_eq_getElem hk, List.foldl_append]
  simp only [Option.toList_some, List.foldl_cons, List.foldl_nil]
  rw [show ms.getD k [] = ms[k] by rw [List.getD_eq_getElem?_getD, List.getElem?_eq_getElem hk]; rfl]

def bdOk (p : Int) (n : Nat) (L : List (List Int)) (ys : List Int) (bg q : Int) : Bool := decide (spCode p n L ys bg = 1) && inB q 0 (p - 1)
def bdR (p : Int) (n : Nat) (L : List (List Int)) (ys : List Int) (bg q : Int) : Int := if bdOk p n L ys bg q then bdK (spSea p n L ys bg).ms q.toNat (spSea p n L ys bg).ms.length else 0

/-- How BoundOf ends. -/
def BdEnd (p : Int) (n : Nat) (L : List (List Int)) (ys : List Int) (bg q : Int) (w : World) (e : Ending) (w' : World) : Prop :=
  e = .returned (.tuple #[.int .i64 (bdR p n L ys bg q), .bool (bdOk p n L ys bg q)]) ∧ Below w.heap.size w w'

theorem bdEnd_no {p : Int} {n : Nat} {L : List (List Int)} {ys : List Int} {bg q : Int} {w w' : World} (h : bdOk p n L ys bg q = false) (hb : Below w.heap.size w w') : BdEnd p n L ys bg q w (.returned (.tuple #[.int .i64 0, .bool false])) w' := by
  refine ⟨?_, hb⟩
  unfold bdR; rw [h]; rfl

theorem bdEnd_yes {p : Int} {n l : Nat} {L : List (List Int)} {ys : List Int} {bg : Int} {q : Nat} {s : Sea} {w w' : World} (hc : spCode p n L ys bg = 1) (hq : inB (q : Int) 0 (p - 1) = true) (hs : SpOk p n l L ys bg s) (hb : Below w.heap.size w w') : BdEnd p n L ys bg (q : Int) w (.returned (.tuple #[.int .i64 (bdK s.ms q s.ms.length), .bool true])) w' := by
  refine ⟨?_, hb⟩
  have h : bdOk p n L ys bg (q : Int) = true := by unfold bdOk; rw [hq, hc]; rfl
  unfold bdR; rw [h, if_pos rfl, hs.is, Int.toNat_natCast]

theorem bdOk_code {p : Int} {n : Nat} {L : List (List Int)} {ys : List Int} {bg q : Int} (h : spCode p n L ys bg ≠ 1) : bdOk p n L ys bg q = false := by unfold bdOk; simp [h]
theorem bdOk_place {p : Int} {n : Nat} {L : List (List Int)} {ys : List Int} {bg q : Int} (h : inB q 0 (p - 1) = false) : bdOk p n L ys bg q = false := by unfold bdOk; rw [h, Bool.and_false]

theorem bdK_small {ms : List (List Int)} {q : Nat} (h : ∀ k, k < ms.length → 0 ≤ (ms.getD k []).getD q 0 ∧ (ms.getD k []).getD q 0 ≤ 50) : ∀ k, k ≤ ms.length → 0 ≤ bdK ms q k ∧ bdK ms q k ≤ 50 := by
  intro k
  induction k with
  | zero => intro _; simp [bdK]
  | succ k ih =>
    intro hk
    have := ih (by omega)
    have := h k (by omega)
    rw [bdK_succ (by omega)]
    unfold mostQ
    split <;> omega




end Go.Proofs.Ytakenobplljkbab


/- spaceAndTokens of the program; CanCome of both. -/
namespace Go.Proofs.Ytakenobplljkbab
open Go.RowKit
set_option maxRecDepth 10000

/-- Whether the space is told whole and the list is a marking. -/
def saOk (p : Int) (n : Nat) (L : List (List Int)) (ys : List Int) (bg : Int) (xs : List Int) : Bool := (spCode p n L ys bg == 1) && goodB p xs

/-- How spaceAndTokens ends. -/
def SaEnd (p : Int) (n l nx : Nat) (L : List (List Int)) (ys : List Int) (bg : Int) (xs : List Int) (w : World) (e : Ending) (w' : World) : Prop :=
  Below w.heap.size w w' ∧
    ((saOk p n L ys bg xs = true ∧ ∃ s B BS mb G aa ac, SpOk p n l L ys bg s ∧ SpSt B w' p n l L s BS mb G (.slice aa s.ar.length ac) ∧ e = .returned (.tuple #[.agg (spV p n BS mb G s.ms.length (.slice aa s.ar.length ac)), .agg (packOf xs nx), .bool true])) ∨
     (saOk p n L ys bg xs = false ∧ ∃ k, e = .returned (.tuple #[.agg spZ, .agg (packOf xs k), .bool false])))

theorem TokAll.kept {w w' : World} {G l : Nat} {ms : List (List Int)} (h : TokAll w G l ms) (hk : w'.heap[G]? = w.heap[G]?) : TokAll w' G l ms :=
  ⟨(Array.getElem?_eq_some_iff.1 (hk.trans (Array.getElem?_eq_getElem h.lt))).1, fun i hi j v hv => by rw [← h.cells i hi j v hv]; simp only [World.cell?, hk]⟩

/-- A space stays where its blocks stay. -/
theorem SpSt.kept {B : Nat} {w w' : World} {p : Int} {n l : Nat} {L : List (List Int)} {s : Sea} {BS mb G : Nat} {av : Value} (h : SpSt B w p n l L s BS mb G av) (hk : ∀ g, B ≤ g → g < w.heap.size → w'.heap[g]? = w.heap[g]?) : SpSt B w' p n l L s BS mb G av :=
  ⟨h.steps.kept (hk BS h.hBS h.steps.lt), h.map.kept (hk mb h.hmb h.map.lt), h.toks.kept (hk G h.hG h.toks.lt), ownsRow_kept h.arcs fun g hg => hk g (own_lt h.arcs hg).1 (own_lt h.arcs hg).2, h.hBS, h.hmb, h.hG⟩

theorem spV_one (p : Int) (n BS mb G N : Nat) (a : Option Addr) (x c : Nat) : (spV p n BS mb G N (.slice a x c)).all (·.oneCell') = true := one5 rfl rfl rfl rfl rfl
theorem spZ_one : spZ.all (·.oneCell') = true := one5 rfl rfl rfl rfl rfl

theorem sa_res {fn : Func} {q r u : Tmp} (hr : fn.results = #[.cell q 74, .cell r 76, .tmp u]) (tmps : Array Value) (W : World) (b d : Nat) (C D : Array Value) (v : Value) (h4 : tmps.getD q undef = .pointer (some ⟨b, 0, none⟩)) (h6 : tmps.getD r undef = .pointer (some ⟨d, 0, none⟩)) (h5 : tmps.getD u undef = v)
    (hs : C.size = 5) (q4 : W.heap[b]? = some (.cells C 74 (0, 0))) (hs2 : D.size = 16) (q6 : W.heap[d]? = some (.cells D 76 (0, 0))) : (results fn tmps).run Try.prog W = .ok (.tuple #[.agg C, .agg D, v]) W := by
  have r1 : (loadVar 74 ⟨b, 0, none⟩).run Try.prog W = .ok (.agg C) W := run_loadVar_row _ _ 74 74 C (0, 0) _ q4 Try.underlying74 rfl (by rw [hs]; exact Try.size74)
  have r2 : (loadVar 76 ⟨d, 0, none⟩).run Try.prog W = .ok (.agg D) W := run_loadVar_row _ _ 76 76 D (0, 0) _ q6 Try.underlying76 rfl (by rw [hs2]; exact Try.size76)
  have e : (results fn tmps).run Try.prog W = ((asAddr (tmps.getD q undef)).run Try.prog W).andThen fun a w1 => ((loadVar 74 a).run Try.prog w1).andThen fun v1 w2 => ((asAddr (tmps.getD r undef)).run Try.prog w2).andThen fun b w3 => ((loadVar 76 b).run Try.prog w3).andThen fun v2 w4 => .ok (.tuple #[v1, v2, tmps.getD u undef]) w4 := by
    simp only [results, hr]
    simp [Sem.run_bind, Result.andThen]
  rw [e, h4, h5, h6]
  show ((loadVar 74 ⟨b, 0, none⟩).run Try.prog W).andThen _ = _
  rw [r1]
  show ((loadVar 76 ⟨d, 0, none⟩).run Try.prog W).andThen _ = _
  rw [r2]
  rfl


set_option maxHeartbeats 1000000 in
theorem spaceTok_any (p : Int) (a am ax : Option Addr) (n c nm cm nx cx : Nat) (L : List (List Int)) (ys xs : List Int) (bg : Int) (w : World) (h : Lists w a (3 * n) L) (rm : Row w am nm ys) (rx : Row w ax nx xs) (hs : sizeN n L ≤ 1048576) (hnm : nm ≤ 1048576) (hnx : nx ≤ 1048576) :
    Calls Try.prog 35 #[.agg #[.int .i64 p, .slice a n c], .slice am nm cm, .int .i64 bg, .slice ax nx cx] w fun e w' => SaEnd p n nm nx L ys bg xs w e w' := by
  have hAl := (below_al w (.cells #[.int .i64 p, .slice a n c] 31)).trans ((below_al (w.alloc (.cells #[.int .i64 p, .slice a n c] 31)) (.cells spZ 74)).mono (by simp))
  have hAl3 := hAl.trans ((below_al ((w.alloc (.cells #[.int .i64 p, .slice a n c] 31)).alloc (.cells spZ 74)) (.cells #[.int .u8 0, .int .u8 0, .int .u8 0, .int .u8 0, .int .u8 0, .int .u8 0, .int .u8 0, .int .u8 0, .int .u8 0, .int .u8 0, .int .u8 0, .int .u8 0, .int .u8 0, .int .u8 0, .int .u8 0, .int .u8 0] 76)).mono hAl.size)
  have HB0 := hide hAl3
  have hN0 := keep (keep (heap_alloc_new w (.cells #[.int .i64 p, .slice a n c] 31)) (below_al (w.alloc (.cells #[.int .i64 p, .slice a n c] 31)) (.cells spZ 74))) (below_al ((w.alloc (.cells #[.int .i64 p, .slice a n c] 31)).alloc (.cells spZ 74)) (.cells #[.int .u8 0, .int .u8 0, .int .u8 0, .int .u8 0, .int .u8 0, .int .u8 0, .int .u8 0, .int .u8 0, .int .u8 0, .int .u8 0, .int .u8 0, .int .u8 0, .int .u8 0, .int .u8 0, .int .u8 0, .int .u8 0] 76))
  have hR0 := keep (heap_alloc2_new w (.cells #[.int .i64 p, .slice a n c] 31) (.cells spZ 74)) (below_al ((w.alloc (.cells #[.int .i64 p, .slice a n c] 31)).alloc (.cells spZ 74)) (.cells #[.int .u8 0, .int .u8 0, .int .u8 0, .int .u8 0, .int .u8 0, .int .u8 0, .int .u8 0, .int .u8 0, .int .u8 0, .int .u8 0, .int .u8 0, .int .u8 0, .int .u8 0, .int .u8 0, .int .u8 0, .int .u8 0] 76))
  have hT0 := heap_alloc_new ((w.alloc (.cells #[.int .i64 p, .slice a n c] 31)).alloc (.cells spZ 74)) (.cells #[.int .u8 0, .int .u8 0, .int .u8 0, .int .u8 0, .int .u8 0, .int .u8 0, .int .u8 0, .int .u8 0, .int .u8 0, .int .u8 0, .int .u8 0, .int .u8 0, .int .u8 0, .int .u8 0, .int .u8 0, .int .u8 0] 76)
  rw [show ((w.alloc (.cells #[.int .i64 p, .slice a n c] 31)).alloc (.cells spZ 74)).heap.size = w.heap.size + 2 by simp] at hT0
  have HL0 := hide (h.below hAl3)
  have HM0 := hide (rm.below hAl3)
  have HX0 := hide (rx.below hAl3)
  clear h rm rx hAl hAl3
  go_enter Try.func35, Try.ntmps35
  go_upto_region 1 with fail
  generalize ((w.alloc (.cells #[.int .i64 p, .slice a n c] 31)).alloc (.cells spZ 74)).alloc (.cells #[.int .u8 0, .int .u8 0, .int .u8 0, .int .u8 0, .int .u8 0, .int .u8 0, .int .u8 0, .int .u8 0, .int .u8 0, .int .u8 0, .int .u8 0, .int .u8 0, .int .u8 0, .int .u8 0, .int .u8 0, .int .u8 0] 76) = v0 at *
  obtain ⟨hc0, hc1⟩ := cells2 hN0
  go_wp2_with fail
  refine (tokens_any p ax nx cx xs _ HX0.out hnx).mono ?_
  rintro e w1 ⟨m, rfl, hm, hb⟩
  have hz0 := HB0.out.size
  have HB1 := hide (HB0.out.trans (hb.mono HB0.out.size))
  have hz1 := HB1.out.size
  have hl8 := row_lt (keep hR0 hb)
  have hl9 := row_lt (keep hT0 hb)
  have hA := below_al w1 (.cells #[.int .u8 0, .int .u8 0, .int .u8 0, .int .u8 0, .int .u8 0, .int .u8 0, .int .u8 0, .int .u8 0, .int .u8 0, .int .u8 0, .int .u8 0, .int .u8 0, .int .u8 0, .int .u8 0, .int .u8 0, .int .u8 0] 76)
  have hg0 := heap_alloc_new w1 (.cells #[.int .u8 0, .int .u8 0, .int .u8 0, .int .u8 0, .int .u8 0, .int .u8 0, .int .u8 0, .int .u8 0, .int .u8 0, .int .u8 0, .int .u8 0, .int .u8 0, .int .u8 0, .int .u8 0, .int .u8 0, .int .u8 0] 76)
  have hV := below_setRow hA w1.heap.size (Nat.le_refl _) (packOf xs m)
  have HB2 := hide (HB1.out.trans (hV.mono HB1.out.size))
  have HN2 := hide (keep (keep hN0 hb) hV)
  have HR8 := hide (keep (keep hR0 hb) hV)
  have HR9 := hide (keep (keep hT0 hb) hV)
  have HT11 := hide (setRow_same hg0 (packOf xs m))
  have hbb := hb.trans (hV.mono hb.size)
  have HL2 := hide (HL0.out.below hbb)
  have HM2 := hide (HM0.out.below hbb)
  have hb11 : w1.heap.size ≠ w.heap.size + 1 ∧ w1.heap.size ≠ w.heap.size + 2 := by omega
  clear hb hbb hV hA HB0 HB1 HL0 HM0 HX0 hN0 hR0 hT0 hc0 hc1
  go_upto_region 2 with ((show wpList _ _ _ (⟨none, .store 76 (.tmp 11) (.tmp 20), _, _, _, _⟩ :: _) _ _); refine wpList_store_row rfl 76 _ _ rfl _ _ rfl rfl 76 _ hg0 (by rw [packOf_size]; exact Try.size76) (by rw [packOf_size]; rfl) (packOf_one _ _) ?_)
  clear hg0
  generalize (w1.alloc (.cells #[.int .u8 0, .int .u8 0, .int .u8 0, .int .u8 0, .int .u8 0, .int .u8 0, .int .u8 0, .int .u8 0, .int .u8 0, .int .u8 0, .int .u8 0, .int .u8 0, .int .u8 0, .int .u8 0, .int .u8 0, .int .u8 0] 76)).setRow w1.heap.size (packOf xs m) = v2 at *
  by_cases hgx : goodB p xs = true
  rotate_left
  · have hgx' : goodB p xs = false := by simpa using hgx
    have hso : saOk p n L ys bg xs = false := by unfold saOk; rw [hgx', Bool.and_false]
    have HR9s : Hid ((v2.setRow (w.heap.size + 1) spZ).heap[w.heap.size + 2]? = some (.cells #[.int .u8 0, .int .u8 0, .int .u8 0, .int .u8 0, .int .u8 0, .int .u8 0, .int .u8 0, .int .u8 0, .int .u8 0, .int .u8 0, .int .u8 0, .int .u8 0, .int .u8 0, .int .u8 0, .int .u8 0, .int .u8 0] 76 (0, 0))) := (setRow_other _ _ _ _ (by omega)).trans HR9.out
    have HR8s : Hid (((v2.setRow (w.heap.size + 1) spZ).setRow (w.heap.size + 2) #[.int .u8 0, .int .u8 0, .int .u8 0, .int .u8 0, .int .u8 0, .int .u8 0, .int .u8 0, .int .u8 0, .int .u8 0, .int .u8 0, .int .u8 0, .int .u8 0, .int .u8 0, .int .u8 0, .int .u8 0, .int .u8 0]).heap[w.heap.size + 1]? = some (.cells spZ 74 (0, 0))) := (setRow_other _ _ _ _ (by omega)).trans (setRow_same HR8.out spZ)
    have HN : Hid (SaEnd p n nm nx L ys bg xs w (.returned (.tuple #[.agg spZ, .agg #[.int .u8 0, .int .u8 0, .int .u8 0, .int .u8 0, .int .u8 0, .int .u8 0, .int .u8 0, .int .u8 0, .int .u8 0, .int .u8 0, .int .u8 0, .int .u8 0, .int .u8 0, .int .u8 0, .int .u8 0, .int .u8 0], .bool false])) ((v2.setRow (w.heap.size + 1) spZ).setRow (w.heap.size + 2) #[.int .u8 0, .int .u8 0, .int .u8 0, .int .u8 0, .int .u8 0, .int .u8 0, .int .u8 0, .int .u8 0, .int .u8 0, .int .u8 0, .int .u8 0, .int .u8 0, .int .u8 0, .int .u8 0, .int .u8 0, .int .u8 0])) :=
      ⟨below_setRow (below_setRow HB2.out _ (by omega) _) _ (by omega) _, .inr ⟨hso, 0, by rw [packOf_zero]⟩⟩
    have hz1 : (#[.int .u8 0, .int .u8 0, .int .u8 0, .int .u8 0, .int .u8 0, .int .u8 0, .int .u8 0, .int .u8 0, .int .u8 0, .int .u8 0, .int .u8 0, .int .u8 0, .int .u8 0, .int .u8 0, .int .u8 0, .int .u8 0] : Array Value).all (·.oneCell') = true := by rw [← packOf_zero xs]; exact packOf_one _ _
    rw [hgx']
    clear hgx hgx' hso
    go_wp2_with (first
      | ((show wpList _ _ _ (⟨none, .store 74 (.tmp 8) (.tmp 24), _, _, _, _⟩ :: _) _ _); refine wpList_store_row rfl 74 _ _ rfl _ _ rfl rfl 74 _ HR8.out Try.size74 rfl spZ_one ?_)
      | ((show wpList _ _ _ (⟨none, .store 76 (.tmp 9) (.tmp 25), _, _, _, _⟩ :: _) _ _); refine wpList_store_row rfl 76 _ _ rfl _ _ rfl rfl 76 _ HR9s.out Try.size76 rfl hz1 ?_))
    refine bodyPost_ret (v := .tuple #[.agg spZ, .agg #[.int .u8 0, .int .u8 0, .int .u8 0, .int .u8 0, .int .u8 0, .int .u8 0, .int .u8 0, .int .u8 0, .int .u8 0, .int .u8 0, .int .u8 0, .int .u8 0, .int .u8 0, .int .u8 0, .int .u8 0, .int .u8 0], .bool false]) ?_ rfl HN.out
    exact sa_res Try.results35 _ _ (w.heap.size + 1) (w.heap.size + 2) _ _ _ rfl rfl rfl rfl HR8s.out rfl (setRow_same HR9s.out _)
  have hmx : m = nx := hm.out hgx
  subst hmx
  rw [hgx]
  have HSP := hide (spaceOf_any p a am n c nm cm L ys bg _ HL2.out HM2.out hs hnm)
  obtain ⟨hc0, hc1⟩ := cells2 HN2.out
  go_wp2_with fail
  refine HSP.out.mono ?_
  rintro e w4 ⟨hb, hxx⟩
  have HB4 := hide (HB2.out.trans (hb.mono HB2.out.size))
  have HR84 := hide (keep HR8.out hb)
  have HR94 := hide (keep HR9.out hb)
  have HT4 := hide (keep HT11.out hb)
  have hz4 := hb.size
  have hl11 := row_lt HT11.out
  have hb2 : w.heap.size + 2 < v2.heap.size := by omega
  generalize v2.heap.size = b2 at *
  obtain ⟨sv, z, rfl, hsz, hone, HF⟩ : ∃ sv z, e = .returned (.tuple #[.agg sv, .int .i64 z]) ∧ sv.size = 5 ∧ sv.all (·.oneCell') = true ∧ Hid (∀ W', (∀ g, b2 ≤ g → g < w4.heap.size → W'.heap[g]? = w4.heap[g]?) → Below w.heap.size w W' → SaEnd p n nm m L ys bg xs w (.returned (.tuple #[.agg sv, .agg (packOf xs m), .bool (z == 1)])) W') := by
    rcases hxx with ⟨hcode, s, BS, mb, G, av, hok, hst, ⟨aa, ac, rfl⟩, rfl⟩ | ⟨hcode, rfl⟩
    · exact ⟨_, _, rfl, rfl, spV_one _ _ _ _ _ _ _ _ _, fun W' h4 h0 => ⟨h0, .inl ⟨by unfold saOk; rw [hcode, hgx]; rfl, s, _, BS, mb, G, aa, ac, hok, hst.kept h4, rfl⟩⟩⟩
    · refine ⟨_, _, rfl, rfl, spZ_one, fun W' h4 h0 => ⟨h0, .inr ⟨by unfold saOk; rw [Bool.and_eq_false_iff]; exact .inl (by simpa using hcode), m, ?_⟩⟩⟩
      have : ((spCode p n L ys bg : Int) == 1) = false := by simp; omega
      rw [this]
  clear hxx hb HB2 HR8 HR9 HT11 HN2 HL2 HM2 HSP hc0 hc1 hm hgx v2
  have hA := below_al w4 (.cells spZ 74)
  have hg0 := heap_alloc_new w4 (.cells spZ 74)
  have hV := below_setRow hA w4.heap.size (Nat.le_refl _) sv
  have HB5 := hide (HB4.out.trans (hV.mono HB4.out.size))
  have HR85 := hide (keep HR84.out hV)
  have HR95 := hide (keep HR94.out hV)
  have HT5 := hide (keep HT4.out hV)
  have HV5 := hide (setRow_same hg0 sv)
  have HF5 : Hid (∀ W', (∀ g, b2 ≤ g → g < w4.heap.size → W'.heap[g]? = ((w4.alloc (.cells spZ 74)).setRow w4.heap.size sv).heap[g]?) → Below w.heap.size w W' → SaEnd p n nm m L ys bg xs w (.returned (.tuple #[.agg sv, .agg (packOf xs m), .bool (z == 1)])) W') := fun W' h4 h0 => HF.out W' (fun g g1 g2 => (h4 g g1 g2).trans (hV.block g g2)) h0
  clear hV hA HB4 HR84 HR94 HT4 HF
  go_upto_region 5 with ((show wpList _ _ _ (⟨none, .store 74 (.tmp 13) (.tmp 31), _, _, _, _⟩ :: _) _ _); refine wpList_store_row rfl 74 _ _ rfl _ _ rfl rfl 74 _ hg0 (by rw [hsz]; exact Try.size74) (by rw [hsz]; rfl) hone ?_)
  clear hg0
  have hb13 : w4.heap.size ≠ w.heap.size + 1 ∧ w4.heap.size ≠ w.heap.size + 2 ∧ w1.heap.size < w4.heap.size := by omega
  generalize (w4.alloc (.cells spZ 74)).setRow w4.heap.size sv = v5 at *
  have HB6 := hide (HB5.out.drew)
  have HR86 := hide (keep HR85.out (Below.refl _ v5).drew)
  have HR96 := hide (keep HR95.out (Below.refl _ v5).drew)
  have HT6 := hide (keep HT5.out (Below.refl _ v5).drew)
  have HV6 := hide (keep HV5.out (Below.refl _ v5).drew)
  have HF6 : Hid (∀ W', (∀ g, b2 ≤ g → g < w4.heap.size → W'.heap[g]? = v5.drew.heap[g]?) → Below w.heap.size w W' → SaEnd p n nm m L ys bg xs w (.returned (.tuple #[.agg sv, .agg (packOf xs m), .bool (z == 1)])) W') := fun W' h4 h0 => HF5.out W' (fun g g1 g2 => h4 g g1 g2) h0
  clear HB5 HR85 HR95 HT5 HV5 HF5
  refine wp_region_held_drew (S := fun W => W.heap[w4.heap.size]? = some (.cells sv 74 (0, 0)) ∧ W.heap[w1.heap.size]? = some (.cells (packOf xs m) 76 (0, 0))) (by kernel_rfl) ?_ (fun hHeld => ?_)
  · exact ⟨HV6.out, HT6.out⟩
  generalize v5.drew = v6 at *
  refine take_yes (i := 0) (some 33) (.agg sv) rfl rfl (by kernel_rfl) (by kernel_rfl) (by kernel_rfl) (fun _ _ _ h => h) (by rfl) ?_ (by assumption) ?_
  · intro W' hSw
    obtain ⟨hz0, hz1⟩ := hSw
    exact exec_load_row 74 _ rfl _ rfl 74 _ _ _ hz0 Try.underlying74 rfl (by rw [hsz]; exact Try.size74)
  simp only [Act.put, List.setIfInBounds_toArray, List.set_cons_zero, List.set_cons_succ]
  refine take_yes (i := 1) (some 34) (.agg (packOf xs m)) rfl rfl (by kernel_rfl) (by kernel_rfl) (by kernel_rfl) (fun _ _ _ h => h) (by rfl) ?_ (by assumption) ?_
  · intro W' hSw
    obtain ⟨hz0, hz1⟩ := hSw
    exact exec_load_row 76 _ rfl _ rfl 76 _ _ _ hz1 Try.underlying76 rfl (by rw [packOf_size]; exact Try.size76)
  simp only [Act.put, List.setIfInBounds_toArray, List.set_cons_zero, List.set_cons_succ]
  refine take_yes (i := 2) (some 35) (.int .i64 z) rfl rfl (by kernel_rfl) (by kernel_rfl) (by kernel_rfl) (fun _ _ _ h => h) (by rfl) ?_ (by assumption) ?_
  · intro W' hSw
    go_simp
  simp only [Act.put, List.setIfInBounds_toArray, List.set_cons_zero, List.set_cons_succ]
  refine take_yes (i := 3) (some 36) (.bool (z == 1)) rfl rfl (by kernel_rfl) (by kernel_rfl) (by kernel_rfl) (fun _ _ _ h => h) (by rfl) ?_ (by assumption) ?_
  · intro W' hSw
    go_simp
  simp only [Act.put, List.setIfInBounds_toArray, List.set_cons_zero, List.set_cons_succ]
  have HR97 := hide ((setRow_otherW v6 (show w.heap.size + 2 ≠ w.heap.size + 1 by omega) sv).trans HR96.out)
  have HN := hide (HF6.out _ (fun g g1 _ => (setRow_otherW _ (show g ≠ w.heap.size + 2 by omega) _).trans (setRow_otherW _ (show g ≠ w.heap.size + 1 by omega) _)) (below_setRow (below_setRow HB6.out _ (by omega) sv) (w.heap.size + 2) (by omega) (packOf xs m)))
  have h8 := HR86.out
  have h9 := HR97.out
  have hv13 := HV6.out
  have ht11 := HT6.out
  clear HR86 HR96 HV6 HT6 HF6 HB6
  refine store_next (i := 4) rfl rfl (by kernel_rfl) (by rfl) 74 _ _ rfl (w.heap.size + 1) sv rfl rfl 74 _ h8 (by rw [hsz]; exact Try.size74) (by rw [hsz]; rfl) hone ?_ (fun _ => ?_)
  · exact ⟨(setRow_otherW _ hb13.1 _).trans hv13, (setRow_otherW _ hb11.1 _).trans ht11⟩
  refine store_next (i := 5) rfl rfl (by kernel_rfl) (by rfl) 76 _ _ rfl (w.heap.size + 2) (packOf xs m) rfl rfl 76 _ h9 (by rw [packOf_size]; exact Try.size76) (by rw [packOf_size]; rfl) (packOf_one _ _) ?_ (fun _ => ?_)
  · exact ⟨(setRow_otherW _ hb13.2.1 _).trans ((setRow_otherW _ hb13.1 _).trans hv13), (setRow_otherW _ hb11.2 _).trans ((setRow_otherW _ hb11.1 _).trans ht11)⟩
  refine take_yes (i := 6) (some 10) (.bool (z == 1)) rfl rfl (by kernel_rfl) (by kernel_rfl) (by kernel_rfl) (fun _ _ _ h => h) (by rfl) ?_ (by assumption) ?_
  · intro W' hSw
    go_simp
  simp only [Act.put, List.setIfInBounds_toArray, List.set_cons_zero, List.set_cons_succ]
  refine wpAnyH_done (by kernel_rfl) ?_ _
  go_wp2_with fail
  refine bodyPost_ret (v := .tuple #[.agg sv, .agg (packOf xs m), .bool (z == 1)]) ?_ rfl HN.out
  exact sa_res Try.results35 _ _ (w.heap.size + 1) (w.heap.size + 2) _ _ _ rfl rfl rfl hsz ((setRow_otherW _ (by omega) _).trans (setRow_same h8 _)) (packOf_size _ _) (setRow_same h9 _)

end Go.Proofs.Ytakenobplljkbab


/- CanCome of both. -/
namespace Go.Proofs.Ytakenobplljkbab
open Go.RowKit
set_option maxRecDepth 10000

def caR (p : Int) (n : Nat) (L : List (List Int)) (ys : List Int) (bg : Int) (xs : List Int) : Bool := saOk p n L ys bg xs && decide (xs ∈ (spSea p n L ys bg).ms)

/-- How CanCome ends. -/
def CaEnd (p : Int) (n : Nat) (L : List (List Int)) (ys : List Int) (bg : Int) (xs : List Int) (w : World) (e : Ending) (w' : World) : Prop :=
  e = .returned (.tuple #[.bool (caR p n L ys bg xs), .bool (saOk p n L ys bg xs)]) ∧ Below w.heap.size w w'

theorem caEnd_no {p : Int} {n : Nat} {L : List (List Int)} {ys xs : List Int} {bg : Int} {w w' : World} (h : saOk p n L ys bg xs = false) (hb : Below w.heap.size w w') : CaEnd p n L ys bg xs w (.returned (.tuple #[.bool false, .bool false])) w' := by
  refine ⟨?_, hb⟩
  unfold caR; rw [h]; rfl

theorem caEnd_yes {p : Int} {n l : Nat} {L : List (List Int)} {ys xs : List Int} {bg : Int} {s : Sea} {w w' : World} (h : saOk p n L ys bg xs = true) (hs : SpOk p n l L ys bg s) (hb : Below w.heap.size w w') {b : Bool} (hx : decide (xs ∈ s.ms) = b) : CaEnd p n L ys bg xs w (.returned (.tuple #[.bool b, .bool true])) w' := by
  refine ⟨?_, hb⟩
  unfold caR; rw [h, hs.is, hx]; rfl

theorem saOk_parts {p : Int} {n : Nat} {L : List (List Int)} {ys xs : List Int} {bg : Int} (h : saOk p n L ys bg xs = true) : spCode p n L ys bg = 1 ∧ goodB p xs = true := by
  unfold saOk at h; rw [Bool.and_eq_true] at h; exact ⟨by simpa using h.1, h.2⟩
theorem saOk_code {p : Int} {n : Nat} {L : List (List Int)} {ys xs : List Int} {bg : Int} (h : spCode p n L ys bg ≠ 1) : saOk p n L ys bg xs = false := by unfold saOk; simp [h]
theorem saOk_good {p : Int} {n : Nat} {L : List (List Int)} {ys xs : List Int} {bg : Int} (h : goodB p xs = false) : saOk p n L ys bg xs = false := by unfold saOk; rw [h, Bool.and_false]
theorem saOk_yes {p : Int} {n : Nat} {L : List (List Int)} {ys xs : List Int} {bg : Int} (h : spCode p n L ys bg = 1) (hg : goodB p xs = true) : saOk p n L ys bg xs = true := by unfold saOk; rw [h, hg]; rfl

theorem SpOk.lens {p : Int} {n l : Nat} {L : List (List Int)} {ys : List Int} {bg : Int} {s : Sea} (h : SpOk p n l L ys bg s) : ∀ u ∈ s.ms, u.length = l := fun u hu => by
  have := (goodB_parts (h.ok.good u hu)).2.1
  have := h.hl
  omega

theorem wpList_lookQ {P : Program} {ops : Array Oper} {rest : List Oper} {op : Oper} {a : Act} {w : World} {Q : Exit → Act → World → Prop} (hgd : op.guard = none) (t : TypeId) (m x : Operand) (c : Bool) (ho : op.op = .lookup t m x c)
    (mv kv v : Value) (hm : a.eval m = mv) (hx : a.eval x = kv) (hr : (Instr.lookup t mv kv c).run P w = .ok v w)
    (h : wpList P ops Q rest (a.put op.dst v) w) : wpList P ops Q (op :: rest) a w := by
  refine wpList_plain hgd fun K hK => ?_
  have hr := exec_lookup t m x c ho mv kv v hm hx hr
  unfold Oper.wp
  rw [hr]
  exact hK _ _ h




end Go.Proofs.Ytakenobplljkbab


/- DeadTrans of both: the transitions that no arc of the whole space is by. -/
namespace Go.Proofs.Ytakenobplljkbab
open Go.RowKit
set_option maxRecDepth 10000

def metB (ar : List (Nat × Nat × Nat)) (t : Nat) : Bool := ar.any fun a => a.2.1 == t
def deadL (n : Nat) (ar : List (Nat × Nat × Nat)) : List Int := numsL (fun t => !metB ar t) n
def dtOk (p : Int) (n : Nat) (L : List (List Int)) (ys : List Int) (bg : Int) : Bool := decide (spCode p n L ys bg = 1)
def dtR (p : Int) (n : Nat) (L : List (List Int)) (ys : List Int) (bg : Int) : List Int := if dtOk p n L ys bg then deadL n (spSea p n L ys bg).ar else []

theorem dtOk_yes {p : Int} {n : Nat} {L : List (List Int)} {ys : List Int} {bg : Int} (h : spCode p n L ys bg = 1) : dtOk p n L ys bg = true := by unfold dtOk; simp [h]
theorem dtOk_no {p : Int} {n : Nat} {L : List (List Int)} {ys : List Int} {bg : Int} (h : spCode p n L ys bg ≠ 1) : dtOk p n L ys bg = false := by unfold dtOk; simp [h]

theorem metB_take {ar : List (Nat × Nat × Nat)} {i x y z : Nat} (h : ar[i]? = some (x, y, z)) (t : Nat) : metB (ar.take (i + 1)) t = (metB (ar.take i) t || y == t) := by
  unfold metB
  rw [List.take_add_one, h, List.any_append]
  simp

theorem arcsL_at : ∀ (ar : List (Nat × Nat × Nat)) (i x y z : Nat), ar[i]? = some (x, y, z) → (arcsL ar)[i * 3]? = some (.int .i64 (x : Int)) ∧ (arcsL ar)[i * 3 + 1]? = some (.int .i64 (y : Int)) ∧ (arcsL ar)[i * 3 + 2]? = some (.int .i64 (z : Int)) := by
  intro ar
  induction ar with
  | nil => intro i x y z h; simp at h
  | cons a r ih =>
    intro i x y z h
    have e : arcsL (a :: r) = [.int .i64 (a.1 : Int), .int .i64 (a.2.1 : Int), .int .i64 (a.2.2 : Int)] ++ arcsL r := by simp [arcsL]
    rw [e]
    cases i with
    | zero => simp at h; subst h; exact ⟨rfl, rfl, rfl⟩
    | succ i =>
      have h' : r[i]? = some (x, y, z) := by simpa using h
      obtain ⟨h1, h2, h3⟩ := ih i x y z h'
      refine ⟨?_, ?_, ?_⟩
      · rw [List.getElem?_append_right (by simp; omega)]; rw [← h1]; congr 1; simp; omega
      · rw [List.getElem?_append_right (by simp; omega)]; rw [← h2]; congr 1; simp; omega
      · rw [List.getElem?_append_right (by simp; omega)]; rw [← h3]; congr 1; simp; omega

/-- An arc in memory. -/
theorem arcs_at {w : World} {B : Nat} {aa : Option Addr} {N ac : Nat} {ar : List (Nat × Nat × Nat)} (h : w.ownsRow B 98 3 (.slice aa N ac) N (arcsL ar)) {i : Nat} (hi : i < N) {x y z : Nat} (ha : ar[i]? = some (x, y, z)) :
    ∃ g, aa = some ⟨g, 0, none⟩ ∧ w.cell? ⟨g, i * 3, none⟩ = some (.int .i64 (x : Int)) ∧ w.cell? ⟨g, i * 3 + 1, none⟩ = some (.int .i64 (y : Int)) ∧ w.cell? ⟨g, i * 3 + 2, none⟩ = some (.int .i64 (z : Int)) := by
  obtain ⟨g, cap, e⟩ : ∃ g cap, Value.slice aa N ac = .slice (some ⟨g, 0, none⟩) N cap := by
    rcases h.2 with ⟨e, _⟩ | ⟨g, cap, cur, e, _⟩
    · simp only [Value.slice.injEq] at e; omega
    · exact ⟨g, cap, e⟩
  simp only [Value.slice.injEq] at e
  obtain ⟨rfl, _, rfl⟩ := e
  obtain ⟨h1, h2, h3⟩ := arcsL_at ar i x y z ha
  refine ⟨g, rfl, ?_, ?_, ?_⟩
  · rw [h.cellAt (i * 3) (by omega), h1]
  · rw [h.cellAt (i * 3 + 1) (by omega), h2]
  · rw [h.cellAt (i * 3 + 2) (by omega), h3]

theorem dtend_yesS {p : Int} {n l : Nat} {L : List (List Int)} {ys : List Int} {bg : Int} {s : Sea} {w w' : World} {v : Value} {m B : Nat} (h : spCode p n L ys bg = 1) (hs : SpOk p n l L ys bg s) (ho : w'.ownsRow B 3 1 v m ((numsL (fun t => !metB s.ar t) n).map (Value.int .i64))) (hb : Below w.heap.size w w') : WEnd (dtOk p n L ys bg) (dtR p n L ys bg) w (.returned (.tuple #[v, .bool true])) w' := by
  obtain ⟨a, c, rfl, hr⟩ := own_row ho
  refine ⟨a, m, c, by rw [dtOk_yes h], ?_, hb⟩
  unfold dtR; rw [dtOk_yes h, if_pos rfl, hs.is]; exact hr

theorem dtend_yesI {p : Int} {n l : Nat} {L : List (List Int)} {ys : List Int} {bg : Int} {s : Sea} {w w' : World} {v : Value} {m B : Nat} (h : spCode p n L ys bg = 1) (hs : SpOk p n l L ys bg s) (ho : w'.ownsRow B 3 1 v m ((numsL (fun t => !metB s.ar t) n).map (Value.int .i64))) (hB : w.heap.size ≤ B) (hb : Below w.heap.size w w') : OEnd (dtOk p n L ys bg) (dtR p n L ys bg) w (.returned (.tuple #[v, .bool true])) w' := by
  obtain ⟨a, b, c, rfl, hb', hr⟩ := own_ob ho
  refine ⟨a, b, m, c, by rw [dtOk_yes h], ?_, Nat.le_trans hB hb', hb⟩
  unfold dtR; rw [dtOk_yes h, if_pos rfl, hs.is]; exact hr

theorem dtend_noS {p : Int} {n : Nat} {L : List (List Int)} {ys : List Int} {bg : Int} {w w' : World} (h : spCode p n L ys bg ≠ 1) (hb : Below w.heap.size w w') : WEnd (dtOk p n L ys bg) (dtR p n L ys bg) w (.returned (.tuple #[.slice none 0 0, .bool false])) w' := by
  refine ⟨none, 0, 0, by rw [dtOk_no h], ⟨?_, .inl rfl⟩, hb⟩
  unfold dtR; rw [dtOk_no h]; rfl

theorem dtend_noI {p : Int} {n : Nat} {L : List (List Int)} {ys : List Int} {bg : Int} {w w' : World} (h : spCode p n L ys bg ≠ 1) (hb : Below w.heap.size w w') : OEnd (dtOk p n L ys bg) (dtR p n L ys bg) w (.returned (.tuple #[.slice none 0 0, .bool false])) w' := by
  refine ⟨none, w.heap.size, 0, 0, by rw [dtOk_no h], ⟨?_, .inl rfl⟩, Nat.le_refl _, hb⟩
  unfold dtR; rw [dtOk_no h]; rfl

theorem arc_get {ar : List (Nat × Nat × Nat)} {i : Nat} (h : i < ar.length) : ∃ x y z, ar[i]? = some (x, y, z) ∧ (x, y, z) ∈ ar := ⟨_, _, _, List.getElem?_eq_getElem h, List.getElem_mem h⟩




end Go.Proofs.Ytakenobplljkbab


/- The least of the shortest ways: the arcs by which marks are met bear it. Mathematics alone. -/
namespace Go.Proofs.Ytakenobplljkbab
open Go.RowKit

abbrev Arcs := List (Nat × Nat × Nat)

def a0 : Nat × Nat × Nat := (0, 0, 0)
/-- The number of the first arc to j. -/
def fiA (ar : Arcs) (j : Nat) : Nat := ar.findIdx fun a => a.2.2 == j
def mbA (ar : Arcs) (j : Nat) : Nat × Nat × Nat := ar.getD (fiA ar j) a0
def parA (ar : Arcs) (j : Nat) : Nat := (mbA ar j).1
def byA (ar : Arcs) (j : Nat) : Nat := (mbA ar j).2.1

/-- The arcs as the search makes them. -/
structure TreeOk (N : Nat) (ar : Arcs) : Prop where
  lt : ∀ k, k < ar.length → (ar.getD k a0).1 < N ∧ (ar.getD k a0).2.2 < N
  ord : ∀ i k, i < k → k < ar.length → (ar.getD i a0).1 < (ar.getD k a0).1 ∨ ((ar.getD i a0).1 = (ar.getD k a0).1 ∧ (ar.getD i a0).2.1 < (ar.getD k a0).2.1)
  less : ∀ k, k < ar.length → ∀ j, 0 < j → j < (ar.getD k a0).2.2 → ∃ i, i < k ∧ (ar.getD i a0).2.2 = j
  met : ∀ j, 0 < j → j < N → ∃ i, i < ar.length ∧ (ar.getD i a0).2.2 = j
  up : ∀ k, k < ar.length → 0 < (ar.getD k a0).2.2 → (∀ i, i < k → (ar.getD i a0).2.2 ≠ (ar.getD k a0).2.2) → (ar.getD k a0).1 < (ar.getD k a0).2.2

section
variable {N : Nat} {ar : Arcs}

theorem fiA_first (ar : Arcs) (j i : Nat) (h : i < fiA ar j) : (ar.getD i a0).2.2 ≠ j := by
  have hi : i < ar.length := Nat.lt_of_lt_of_le h List.findIdx_le_length
  have := List.not_of_lt_findIdx h
  rw [List.getD_eq_getElem?_getD, List.getElem?_eq_getElem hi]
  simpa using this

theorem fiA_le (ar : Arcs) {i j : Nat} (_hi : i < ar.length) (h : (ar.getD i a0).2.2 = j) : fiA ar j ≤ i := by
  by_cases hc : fiA ar j ≤ i
  · exact hc
  · exact absurd h (fiA_first ar j i (by omega))

theorem TreeOk.fi (h : TreeOk N ar) {j : Nat} (h0 : 0 < j) (hj : j < N) : fiA ar j < ar.length ∧ (mbA ar j).2.2 = j ∧ parA ar j < j ∧ parA ar j < N := by
  obtain ⟨i, hi, e⟩ := h.met j h0 hj
  have hl : fiA ar j < ar.length := Nat.lt_of_le_of_lt (fiA_le ar hi e) hi
  have he : (mbA ar j).2.2 = j := by
    have := List.findIdx_getElem (w := hl)
    unfold mbA
    rw [List.getD_eq_getElem?_getD, List.getElem?_eq_getElem hl]
    exact beq_iff_eq.mp this
  have he' : (ar.getD (fiA ar j) a0).2.2 = j := he
  refine ⟨hl, he, ?_, (h.lt _ hl).1⟩
  have := h.up _ hl (by omega) (fun i hi => by rw [he']; exact fiA_first ar j i hi)
  rw [he'] at this
  exact this

theorem TreeOk.from_le (h : TreeOk N ar) {i k : Nat} (hik : i ≤ k) (hk : k < ar.length) : (ar.getD i a0).1 ≤ (ar.getD k a0).1 := by
  by_cases e : i = k
  · rw [e]; exact Nat.le_refl _
  · rcases h.ord i k (by omega) hk with q | q <;> omega

/-- Which of two is met first. -/
theorem TreeOk.fi_lt (h : TreeOk N ar) {i j : Nat} (hi : 0 < i) (hij : i < j) (hj : j < N) : fiA ar i < fiA ar j := by
  obtain ⟨hl, he, _⟩ := h.fi (Nat.lt_trans hi hij) hj
  have he' : (ar.getD (fiA ar j) a0).2.2 = j := he
  obtain ⟨q, hq, e⟩ := h.less _ hl i hi (by rw [he']; exact hij)
  exact Nat.lt_of_le_of_lt (fiA_le ar (Nat.lt_trans hq hl) e) hq

/-- How far a mark lies from the first one, by the arcs by which marks were met. -/
def dpA (ar : Arcs) : Nat → Nat → Nat
  | 0, _ => 0
  | f + 1, j => if j = 0 then 0 else dpA ar f (parA ar j) + 1

theorem TreeOk.dp_fuel (h : TreeOk N ar) : ∀ (f g j : Nat), j < N → j ≤ f → j ≤ g → dpA ar f j = dpA ar g j := by
  intro f
  induction f with
  | zero =>
    intro g j _ hf _
    have : j = 0 := by omega
    subst this
    cases g <;> simp [dpA]
  | succ f ih =>
    intro g j hj hf hg
    by_cases h0 : j = 0
    · subst h0; cases g <;> simp [dpA]
    · cases g with
      | zero => omega
      | succ g =>
        obtain ⟨_, _, h1, h2⟩ := h.fi (by omega) hj
        simp only [dpA, if_neg h0]
        rw [ih g (parA ar j) h2 (by omega) (by omega)]

def dp (ar : Arcs) (j : Nat) : Nat := dpA ar j j

theorem TreeOk.dp_up (h : TreeOk N ar) {j : Nat} (h0 : 0 < j) (hj : j < N) : dp ar j = dp ar (parA ar j) + 1 := by
  obtain ⟨_, _, h1, h2⟩ := h.fi h0 hj
  unfold dp
  cases j with
  | zero => omega
  | succ j =>
    simp only [dpA, if_neg (Nat.succ_ne_zero j)]
    rw [h.dp_fuel j (parA ar (j + 1)) _ h2 (by omega) (Nat.le_refl _)]
theorem dp_zero (ar : Arcs) : dp ar 0 = 0 := rfl

theorem TreeOk.dp_mono (h : TreeOk N ar) : ∀ (j i : Nat), i ≤ j → j < N → dp ar i ≤ dp ar j := by
  intro j
  induction j using Nat.strongRecOn with
  | _ j ih =>
    intro i hij hj
    by_cases e : i = j
    · rw [e]; exact Nat.le_refl _
    by_cases h0 : i = 0
    · subst h0; rw [dp_zero]; exact Nat.zero_le _
    · have hi : 0 < i := by omega
      have hj0 : 0 < j := by omega
      obtain ⟨l1, _, p1, n1⟩ := h.fi hi (by omega)
      obtain ⟨l2, _, p2, n2⟩ := h.fi hj0 hj
      have hf := h.fi_lt hi (by omega) hj
      have hp : parA ar i ≤ parA ar j := h.from_le (by omega) l2
      rw [h.dp_up hi (by omega), h.dp_up hj0 hj]
      have := ih (parA ar j) p2 (parA ar i) hp n2
      omega

theorem TreeOk.dp_arc (h : TreeOk N ar) {k : Nat} (hk : k < ar.length) : dp ar (ar.getD k a0).2.2 ≤ dp ar (ar.getD k a0).1 + 1 := by
  obtain ⟨h1, h2⟩ := h.lt k hk
  by_cases h0 : (ar.getD k a0).2.2 = 0
  · rw [h0, dp_zero]; omega
  · rw [h.dp_up (by omega) h2]
    have hf := fiA_le ar hk rfl
    have hp : parA ar (ar.getD k a0).2.2 ≤ (ar.getD k a0).1 := h.from_le hf hk
    have := h.dp_mono _ _ hp h1
    omega

/-- What the specification's numbers tell: how far each one is from to. -/
structure FarOk (N : Nat) (ar : Arcs) (to : Nat) (f : Nat → Int) : Prop where
  zero : f to = 0
  only : ∀ i, i < N → f i = 0 → i = to
  arc : ∀ k, k < ar.length → 0 ≤ f (ar.getD k a0).2.2 → 0 ≤ f (ar.getD k a0).1 ∧ f (ar.getD k a0).1 ≤ f (ar.getD k a0).2.2 + 1
  next : ∀ i, i < N → 0 < f i → ∃ k, k < ar.length ∧ (ar.getD k a0).1 = i ∧ f (ar.getD k a0).2.2 = f i - 1

/-- The marks on the way to to. -/
inductive OnP (ar : Arcs) (N to : Nat) : Nat → Prop
  | end_ : OnP ar N to to
  | up {y : Nat} : OnP ar N to y → 0 < y → y < N → OnP ar N to (parA ar y)

variable {to : Nat} {f : Nat → Int}

theorem FarOk.low (h : TreeOk N ar) (hf : FarOk N ar to f) : ∀ (m i : Nat), i < N → f i = (m : Int) → dp ar to ≤ dp ar i + m := by
  intro m
  induction m with
  | zero => intro i hi e; rw [hf.only i hi (by simpa using e)]; omega
  | succ m ih =>
    intro i hi e
    obtain ⟨k, hk, e1, e2⟩ := hf.next i hi (by omega)
    have := ih _ (h.lt k hk).2 (by omega)
    have h2 := h.dp_arc hk
    rw [e1] at h2
    omega

theorem FarOk.onP (h : TreeOk N ar) (hf : FarOk N ar to f) (hto : to < N) {y : Nat} (hy : OnP ar N to y) : y < N ∧ f y = ((dp ar to - dp ar y : Nat) : Int) ∧ dp ar y ≤ dp ar to := by
  induction hy with
  | end_ => exact ⟨hto, by rw [hf.zero]; simp, Nat.le_refl _⟩
  | @up y hy h0 hN ih =>
    obtain ⟨_, e, hle⟩ := ih
    obtain ⟨hl, he, hp, hpN⟩ := h.fi h0 hN
    have he' : (ar.getD (fiA ar y) a0).2.2 = y := he
    have hd := h.dp_up h0 hN
    have ha := hf.arc _ hl (by rw [he', e]; omega)
    rw [he', e] at ha
    have hpe : (ar.getD (fiA ar y) a0).1 = parA ar y := rfl
    rw [hpe] at ha
    obtain ⟨m, hm⟩ : ∃ m : Nat, f (parA ar y) = (m : Int) := ⟨(f (parA ar y)).toNat, by omega⟩
    have hlow := FarOk.low h hf m _ hpN hm
    refine ⟨hpN, ?_, by omega⟩
    omega

/-- One with a lesser number is not as near. -/
theorem FarOk.less_no (h : TreeOk N ar) (hf : FarOk N ar to f) (hto : to < N) : ∀ (m x y : Nat), x < y → x < N → OnP ar N to y → f x = (m : Int) → f y = (m : Int) → False := by
  intro m
  induction m with
  | zero =>
    intro x y hxy hx hy e1 e2
    have hyN := (FarOk.onP h hf hto hy).1
    have := hf.only x hx (by simpa using e1)
    have := hf.only y hyN (by simpa using e2)
    omega
  | succ m ih =>
    intro x y hxy hx hy e1 e2
    cases hy with
    | end_ => rw [hf.zero] at e2; omega
    | @up y' hy' h0 hN =>
      obtain ⟨k, hk, k1, k2⟩ := hf.next x hx (by omega)
      obtain ⟨hl, he, hp, hpN⟩ := h.fi h0 hN
      obtain ⟨_, f1, d1⟩ := FarOk.onP h hf hto hy'
      obtain ⟨_, f2, d2⟩ := FarOk.onP h hf hto (OnP.up hy' h0 hN)
      have hd := h.dp_up h0 hN
      have hfy : f y' = (m : Int) := by omega
      refine ih _ y' ?_ (h.lt k hk).2 hy' (by omega) hfy
      by_cases hc : (ar.getD k a0).2.2 < y'
      · exact hc
      · have hpe : (ar.getD (fiA ar y') a0).1 = parA ar y' := rfl
        have hkf : k < fiA ar y' := by
          by_cases q : k < fiA ar y'
          · exact q
          · have := h.from_le (show fiA ar y' ≤ k by omega) hk
            rw [hpe, k1] at this
            omega
        by_cases e : (ar.getD k a0).2.2 = y'
        · exact absurd e (fiA_first ar y' k hkf)
        · obtain ⟨i, hi, e3⟩ := h.less k hk y' h0 (by omega)
          exact absurd e3 (fiA_first ar y' i (by omega))

/-- From a mark on the way the first arc to one that is nearer is the arc by which the next one on the way was met. -/
theorem FarOk.step (h : TreeOk N ar) (hf : FarOk N ar to f) (hto : to < N) {y k : Nat} (hy : OnP ar N to y) (hne : y ≠ to) (hk : k < ar.length) (h1 : (ar.getD k a0).1 = y) (h2 : f (ar.getD k a0).2.2 = f y - 1) (hfirst : ∀ i, i < k → ¬ ((ar.getD i a0).1 = y ∧ f (ar.getD i a0).2.2 = f y - 1)) :
    OnP ar N to (ar.getD k a0).2.2 ∧ 0 < (ar.getD k a0).2.2 ∧ parA ar (ar.getD k a0).2.2 = y ∧ byA ar (ar.getD k a0).2.2 = (ar.getD k a0).2.1 := by
  cases hy with
  | end_ => exact absurd rfl hne
  | @up y' hy' h0 hN =>
    obtain ⟨hl, he, hp, hpN⟩ := h.fi h0 hN
    obtain ⟨_, f1, d1⟩ := FarOk.onP h hf hto hy'
    obtain ⟨_, f2, d2⟩ := FarOk.onP h hf hto (OnP.up hy' h0 hN)
    have hd := h.dp_up h0 hN
    have he' : (ar.getD (fiA ar y') a0).2.2 = y' := he
    have hpe : (ar.getD (fiA ar y') a0).1 = parA ar y' := rfl
    have hle : k ≤ fiA ar y' := by
      by_cases q : k ≤ fiA ar y'
      · exact q
      · exact absurd ⟨hpe, by rw [he']; omega⟩ (hfirst (fiA ar y') (by omega))
    have hk' : k = fiA ar y' := by
      by_cases q : k = fiA ar y'
      · exact q
      · exfalso
        have hkf : k < fiA ar y' := by omega
        have hu : (ar.getD k a0).2.2 < y' := by
          by_cases c : (ar.getD k a0).2.2 < y'
          · exact c
          · by_cases e : (ar.getD k a0).2.2 = y'
            · exact absurd e (fiA_first ar y' k hkf)
            · obtain ⟨i, hi, e3⟩ := h.less k hk y' h0 (by omega)
              exact absurd e3 (fiA_first ar y' i (by omega))
        exact FarOk.less_no h hf hto (dp ar to - dp ar y') _ y' hu (h.lt k hk).2 hy' (by omega) f1
    subst hk'
    rw [he']
    exact ⟨hy', h0, rfl, rfl⟩

/-- The transitions on the way to j. -/
def wayA (ar : Arcs) : Nat → Nat → List Nat
  | 0, _ => []
  | f + 1, j => if j = 0 then [] else wayA ar f (parA ar j) ++ [byA ar j]

theorem TreeOk.way_fuel (h : TreeOk N ar) : ∀ (f g j : Nat), j < N → j ≤ f → j ≤ g → wayA ar f j = wayA ar g j := by
  intro f
  induction f with
  | zero =>
    intro g j _ hf _
    have : j = 0 := by omega
    subst this
    cases g <;> simp [wayA]
  | succ f ih =>
    intro g j hj hf hg
    by_cases h0 : j = 0
    · subst h0; cases g <;> simp [wayA]
    · cases g with
      | zero => omega
      | succ g =>
        obtain ⟨_, _, h1, h2⟩ := h.fi (by omega) hj
        simp only [wayA, if_neg h0]
        rw [ih g (parA ar j) h2 (by omega) (by omega)]

def wayL (ar : Arcs) (j : Nat) : List Nat := wayA ar j j
theorem wayL_zero (ar : Arcs) : wayL ar 0 = [] := rfl
theorem TreeOk.way_up (h : TreeOk N ar) {j : Nat} (h0 : 0 < j) (hj : j < N) : wayL ar j = wayL ar (parA ar j) ++ [byA ar j] := by
  obtain ⟨_, _, h1, h2⟩ := h.fi h0 hj
  unfold wayL
  cases j with
  | zero => omega
  | succ j =>
    simp only [wayA, if_neg (Nat.succ_ne_zero j)]
    rw [h.way_fuel j (parA ar (j + 1)) _ h2 (by omega) (Nat.le_refl _)]
theorem wayL_len (ar : Arcs) : ∀ (f j : Nat), (wayA ar f j).length ≤ f := by
  intro f
  induction f with
  | zero => intro j; simp [wayA]
  | succ f ih =>
    intro j
    unfold wayA
    split
    · simp
    · rw [List.length_append]; have := ih (parA ar j); simp; omega

/-- The first one is on every way. -/
theorem TreeOk.root (h : TreeOk N ar) : ∀ (y : Nat), y < N → OnP ar N to y → OnP ar N to 0 := by
  intro y
  induction y using Nat.strongRecOn with
  | _ y ih =>
    intro hy ho
    by_cases h0 : y = 0
    · rw [← h0]; exact ho
    · obtain ⟨_, _, h1, h2⟩ := h.fi (by omega) hy
      exact ih _ h1 h2 (OnP.up ho (by omega) hy)
end
end Go.Proofs.Ytakenobplljkbab


/- The arcs of a search stand as Vm asks: TreeOk of searchS. Mathematics alone. -/
namespace Go.Proofs.Ytakenobplljkbab
open Go.RowKit

theorem snoc_old {ar : Arcs} {x : Nat × Nat × Nat} {i : Nat} (h : i < ar.length) : (ar ++ [x]).getD i a0 = ar.getD i a0 := by
  rw [List.getD_eq_getElem?_getD, List.getElem?_append_left h, ← List.getD_eq_getElem?_getD]
theorem snoc_new {ar : Arcs} {x : Nat × Nat × Nat} : (ar ++ [x]).getD ar.length a0 = x := by
  rw [List.getD_eq_getElem?_getD, List.getElem?_append_right (Nat.le_refl _)]
  simp

/-- One arc more. -/
theorem TreeOk.put {N N' k t z : Nat} {ar : Arcs} (h : TreeOk N ar) (hk : k < N) (hb : ∀ a ∈ ar, a.1 < k ∨ (a.1 = k ∧ a.2.1 < t)) (hz : (N' = N ∧ z < N) ∨ (N' = N + 1 ∧ z = N)) : TreeOk N' (ar ++ [(k, t, z)]) := by
  have hlen : (ar ++ [(k, t, z)]).length = ar.length + 1 := by simp
  have hold : ∀ i, i < ar.length → (ar ++ [(k, t, z)]).getD i a0 = ar.getD i a0 := fun i hi => snoc_old hi
  have hnew : (ar ++ [(k, t, z)]).getD ar.length a0 = (k, t, z) := snoc_new
  have hbi : ∀ i, i < ar.length → (ar.getD i a0).1 < k ∨ ((ar.getD i a0).1 = k ∧ (ar.getD i a0).2.1 < t) := fun i hi => by
    have e : ar.getD i a0 = ar[i] := by rw [List.getD_eq_getElem?_getD, List.getElem?_eq_getElem hi]; rfl
    rw [e]; exact hb _ (List.getElem_mem hi)
  refine ⟨fun i hi => ?_, fun i j hij hj => ?_, fun j hj q hq0 hq => ?_, fun j h0 hj => ?_, fun j hj h0 hf => ?_⟩
  · by_cases hl : i < ar.length
    · rw [hold i hl]; have := h.lt i hl; omega
    · obtain rfl : i = ar.length := by omega
      rw [hnew]; show k < N' ∧ z < N'; omega
  · by_cases hl : j < ar.length
    · rw [hold i (by omega), hold j hl]; exact h.ord i j hij hl
    · obtain rfl : j = ar.length := by omega
      rw [hold i hij, hnew]; exact hbi i hij
  · by_cases hl : j < ar.length
    · rw [hold j hl] at hq
      obtain ⟨i, hi, e⟩ := h.less j hl q hq0 hq
      exact ⟨i, hi, by rw [hold i (by omega)]; exact e⟩
    · obtain rfl : j = ar.length := by omega
      rw [hnew] at hq
      have hq' : q < z := hq
      obtain ⟨i, hi, e⟩ := h.met q hq0 (by omega)
      exact ⟨i, hi, by rw [hold i hi]; exact e⟩
  · by_cases hl : j < N
    · obtain ⟨i, hi, e⟩ := h.met j h0 hl
      exact ⟨i, by omega, by rw [hold i hi]; exact e⟩
    · exact ⟨ar.length, by omega, by rw [hnew]; show z = j; omega⟩
  · by_cases hl : j < ar.length
    · rw [hold j hl] at h0 hf ⊢
      exact h.up j hl h0 fun i hi => by have := hf i hi; rw [hold i (by omega)] at this; exact this
    · obtain rfl : j = ar.length := by omega
      rw [hnew] at h0 hf ⊢
      show k < z
      rcases hz with ⟨_, hz⟩ | ⟨_, hz⟩
      · obtain ⟨i, hi, e⟩ := h.met z h0 hz
        exact absurd (by rw [hold i hi]; exact e) (hf i hi)
      · omega

theorem TreeOk.start : TreeOk 1 [] :=
  ⟨fun k hk => by simp at hk, fun i k _ hk => by simp at hk, fun k hk => by simp at hk, fun j h0 hj => by omega, fun k hk => by simp at hk⟩

theorem oneS_tree {p : Int} {B : Nat} {L : List (List Int)} {s s' : Sea} {m : List Int} {k t : Nat} (h : TreeOk s.ms.length s.ar) (hk : k < s.ms.length) (hb : ∀ a ∈ s.ar, a.1 < k ∨ (a.1 = k ∧ a.2.1 < t)) (he : oneS p L B m k t s = .ok s') :
    TreeOk s'.ms.length s'.ar ∧ s.ms.length ≤ s'.ms.length ∧ ∃ z, s'.ar = s.ar ++ [(k, t, z)] := by
  unfold oneS at he
  by_cases h1 : goodB p (fireT L m t) = true
  · rw [if_pos h1] at he
    unfold meetS at he
    by_cases h2 : fireT L m t ∈ s.ms
    · rw [if_pos h2] at he; cases he
      exact ⟨h.put hk hb (.inl ⟨rfl, List.idxOf_lt_length_of_mem h2⟩), Nat.le_refl _, _, rfl⟩
    · rw [if_neg h2] at he
      by_cases h3 : s.ms.length = B
      · rw [if_pos h3] at he; cases he
      · rw [if_neg h3] at he; cases he
        exact ⟨h.put hk hb (.inr ⟨by simp, rfl⟩), by simp, _, rfl⟩
  · rw [if_neg h1] at he; cases he

theorem rowS_tree {p : Int} {B : Nat} {L : List (List Int)} {m : List Int} {k : Nat} : ∀ {ts : List Nat} {s s' : Sea}, TreeOk s.ms.length s.ar → k < s.ms.length → ts.Pairwise (· < ·) → (∀ a ∈ s.ar, a.1 < k ∨ (a.1 = k ∧ ∀ x ∈ ts, a.2.1 < x)) → rowS p L B m k ts s = .ok s' →
    TreeOk s'.ms.length s'.ar ∧ ∀ a ∈ s'.ar, a.1 < k + 1
  | [], s, s', h, _, _, hb, he => by
    unfold rowS at he; cases he
    exact ⟨h, fun a ha => by rcases hb a ha with q | q <;> omega⟩
  | t :: r, s, s', h, hk, hp, hb, he => by
    rw [List.pairwise_cons] at hp
    unfold rowS at he
    by_cases hc : canT L m t = true
    · rw [if_pos hc] at he
      cases h1 : oneS p L B m k t s with
      | error c => rw [h1] at he; cases he
      | ok s1 =>
        rw [h1] at he
        obtain ⟨t1, t2, z, t3⟩ := oneS_tree h hk (fun a ha => by rcases hb a ha with q | q; exact .inl q; exact .inr ⟨q.1, q.2 t (by simp)⟩) h1
        refine rowS_tree t1 (by omega) hp.2 (fun a ha => ?_) he
        rw [t3] at ha
        rcases List.mem_append.mp ha with ha | ha
        · rcases hb a ha with q | q
          · exact .inl q
          · exact .inr ⟨q.1, fun x hx => q.2 x (by simp [hx])⟩
        · simp at ha; subst ha; exact .inr ⟨rfl, fun x hx => hp.1 x hx⟩
    · rw [if_neg hc] at he
      refine rowS_tree h hk hp.2 (fun a ha => ?_) he
      rcases hb a ha with q | q
      · exact .inl q
      · exact .inr ⟨q.1, fun x hx => q.2 x (by simp [hx])⟩

theorem seaS_tree {p : Int} {n B : Nat} {L : List (List Int)} : ∀ {f k : Nat} {s s' : Sea}, TreeOk s.ms.length s.ar → (∀ a ∈ s.ar, a.1 < k) → seaS p n L B f k s = .ok s' → TreeOk s'.ms.length s'.ar
  | 0, k, s, s', h, _, he => by
    unfold seaS at he; cases he; exact h
  | f + 1, k, s, s', h, hb, he => by
    unfold seaS at he
    by_cases hk : k < s.ms.length
    · rw [if_pos hk] at he
      cases h1 : rowS p L B (s.ms.getD k []) k (List.range n) s with
      | error c => rw [h1] at he; cases he
      | ok s1 =>
        rw [h1] at he
        obtain ⟨t1, t2⟩ := rowS_tree h hk List.pairwise_lt_range (fun a ha => .inl (hb a ha)) h1
        exact seaS_tree t1 t2 he
    · rw [if_neg hk] at he; cases he; exact h

/-- The arcs of a whole search are a tree's. -/
theorem searchS_tree {p : Int} {n B : Nat} {L : List (List Int)} {ys : List Int} {s : Sea} (he : searchS p n L B ys = .ok s) : TreeOk s.ms.length s.ar := by
  unfold searchS at he
  exact seaS_tree (s := sea0 ys) TreeOk.start (fun a ha => by simp [sea0] at ha) he
end Go.Proofs.Ytakenobplljkbab


/- What the specification's search backwards keeps in mind until it ends in FarOk. Mathematics alone. -/
namespace Go.Proofs.Ytakenobplljkbab
open Go.RowKit

def setF (f : Nat → Int) (y : Nat) (v : Int) : Nat → Int := fun i => if i = y then v else f i
theorem setF_same (f : Nat → Int) (y : Nat) (v : Int) : setF f y v y = v := by simp [setF]
theorem setF_ne (f : Nat → Int) {y i : Nat} (v : Int) (h : i ≠ y) : setF f y v i = f i := by simp [setF, h]

/-- Between two rounds: f the numbers, R the row of those that wait, D those that are through. -/
structure BfSt (N : Nat) (ar : Arcs) (to : Nat) (f : Nat → Int) (R : List Nat) (D : Nat → Prop) : Prop where
  zero : f to = 0
  min : ∀ i, -1 ≤ f i
  only : ∀ i, i < N → f i = 0 → i = to
  next : ∀ i, i < N → 0 < f i → ∃ k, k < ar.length ∧ (ar.getD k a0).1 = i ∧ f (ar.getD k a0).2.2 = f i - 1
  told : ∀ i, 0 ≤ f i → D i ∨ i ∈ R
  done : ∀ i, D i → 0 ≤ f i ∧ ∀ k, k < ar.length → (ar.getD k a0).2.2 = i → 0 ≤ f (ar.getD k a0).1 ∧ f (ar.getD k a0).1 ≤ f i + 1
  row : ∀ i ∈ R, 0 ≤ f i ∧ i < N
  srt : R.Pairwise fun x y => f x ≤ f y
  top : ∀ x ∈ R.head?, ∀ i, f i ≤ f x + 1

/-- Within a round: x was taken, the first c arcs are through. -/
structure BfIn (N : Nat) (ar : Arcs) (to : Nat) (f : Nat → Int) (r : List Nat) (D : Nat → Prop) (x c : Nat) : Prop where
  zero : f to = 0
  min : ∀ i, -1 ≤ f i
  only : ∀ i, i < N → f i = 0 → i = to
  next : ∀ i, i < N → 0 < f i → ∃ k, k < ar.length ∧ (ar.getD k a0).1 = i ∧ f (ar.getD k a0).2.2 = f i - 1
  told : ∀ i, 0 ≤ f i → D i ∨ i = x ∨ i ∈ r
  done : ∀ i, D i → 0 ≤ f i ∧ ∀ k, k < ar.length → (ar.getD k a0).2.2 = i → 0 ≤ f (ar.getD k a0).1 ∧ f (ar.getD k a0).1 ≤ f i + 1
  row : ∀ i ∈ r, 0 ≤ f i ∧ i < N
  srt : r.Pairwise fun x y => f x ≤ f y
  low : ∀ i ∈ r, f x ≤ f i
  top : ∀ i, f i ≤ f x + 1
  here : 0 ≤ f x ∧ x < N
  arcs : ∀ k, k < c → k < ar.length → (ar.getD k a0).2.2 = x → 0 ≤ f (ar.getD k a0).1

theorem BfSt.start {N to : Nat} {ar : Arcs} (hto : to < N) : BfSt N ar to (setF (fun _ => -1) to 0) [to] (fun _ => False) := by
  have hv : ∀ i, setF (fun _ => (-1 : Int)) to 0 i = if i = to then 0 else -1 := fun i => rfl
  refine ⟨setF_same _ _ _, fun i => ?_, fun i _ h => ?_, fun i _ h => ?_, fun i h => ?_, fun i h => h.elim, fun i h => ?_, by simp, fun x hx i => ?_⟩
  · rw [hv]; split <;> omega
  · rw [hv] at h; split at h
    · assumption
    · omega
  · rw [hv] at h; split at h <;> omega
  · rw [hv] at h; split at h
    · right; simp; assumption
    · omega
  · simp at h; subst h; exact ⟨by rw [setF_same]; omega, hto⟩
  · simp at hx; subst hx; rw [setF_same, hv]; split <;> omega

/-- A round begins. -/
theorem BfSt.pop {N to x : Nat} {ar : Arcs} {f : Nat → Int} {r : List Nat} {D : Nat → Prop} (h : BfSt N ar to f (x :: r) D) : BfIn N ar to f r D x 0 := by
  have hs := h.srt
  rw [List.pairwise_cons] at hs
  refine ⟨h.zero, h.min, h.only, h.next, fun i hi => ?_, h.done, fun i hi => h.row i (by simp [hi]), hs.2, fun i hi => hs.1 i hi, h.top x (by simp), h.row x (by simp), fun k hk => by omega⟩
  rcases h.told i hi with q | q
  · exact .inl q
  · right; simpa using q

/-- An arc that leads elsewhere, or from one that has its number. -/
theorem BfIn.skip {N to x c : Nat} {ar : Arcs} {f : Nat → Int} {r : List Nat} {D : Nat → Prop} (h : BfIn N ar to f r D x c) (hn : ¬ ((ar.getD c a0).2.2 = x ∧ f (ar.getD c a0).1 < 0)) : BfIn N ar to f r D x (c + 1) := by
  refine ⟨h.zero, h.min, h.only, h.next, h.told, h.done, h.row, h.srt, h.low, h.top, h.here, fun k hk hl he => ?_⟩
  by_cases e : k = c
  · subst e
    by_cases q : f (ar.getD k a0).1 < 0
    · exact absurd ⟨he, q⟩ hn
    · omega
  · exact h.arcs k (by omega) hl he

/-- An arc from one that has no number yet. -/
theorem BfIn.put {N to x c : Nat} {ar : Arcs} {f : Nat → Int} {r : List Nat} {D : Nat → Prop} (h : BfIn N ar to f r D x c) (hc : c < ar.length) (hN : (ar.getD c a0).1 < N) (he : (ar.getD c a0).2.2 = x) (hf : f (ar.getD c a0).1 < 0) :
    BfIn N ar to (setF f (ar.getD c a0).1 (f x + 1)) (r ++ [(ar.getD c a0).1]) D x (c + 1) := by
  generalize hy : (ar.getD c a0).1 = y at *
  have old : ∀ i, 0 ≤ f i → setF f y (f x + 1) i = f i := fun i hi => setF_ne f _ (fun e => by subst e; omega)
  have hx := h.here.1
  have hxv : setF f y (f x + 1) x = f x := old x hx
  have all : ∀ i, setF f y (f x + 1) i = (if i = y then f x + 1 else f i) := fun i => rfl
  have up : ∀ i, 0 ≤ f i → 0 ≤ setF f y (f x + 1) i := fun i hi => by rw [old i hi]; exact hi
  refine ⟨by rw [old _ (by rw [h.zero]; omega)]; exact h.zero, fun i => ?_, fun i hi e => ?_, fun i hi e => ?_, fun i e => ?_, fun i hd => ?_, fun i hi => ?_, ?_, fun i hi => ?_, fun i => ?_, ⟨by rw [hxv]; exact hx, h.here.2⟩, fun k hk hl e => ?_⟩
  · rw [all]; split
    · omega
    · exact h.min i
  · rw [all] at e; split at e
    · omega
    · exact h.only i hi e
  · by_cases q : i = y
    · subst q
      refine ⟨c, hc, hy, ?_⟩
      rw [he, hxv, setF_same]; omega
    · rw [setF_ne _ _ q] at e ⊢
      obtain ⟨k, k1, k2, k3⟩ := h.next i hi e
      exact ⟨k, k1, k2, by rw [old _ (by omega)]; exact k3⟩
  · by_cases q : i = y
    · right; right; simp [q]
    · rw [setF_ne _ _ q] at e
      rcases h.told i e with a | a | a
      · exact .inl a
      · exact .inr (.inl a)
      · right; right; simp [a]
  · obtain ⟨d1, d2⟩ := h.done i hd
    refine ⟨up i d1, fun k hk e => ?_⟩
    obtain ⟨b1, b2⟩ := d2 k hk e
    rw [old _ b1, old _ d1]; exact ⟨b1, b2⟩
  · rcases List.mem_append.mp hi with a | a
    · exact ⟨up i (h.row i a).1, (h.row i a).2⟩
    · simp at a; subst a; exact ⟨by rw [setF_same]; omega, hN⟩
  · rw [List.pairwise_append]
    refine ⟨?_, by simp, fun a ha b hb => ?_⟩
    · refine h.srt.imp_of_mem fun {a b} ha hb hab => ?_
      rw [old a (h.row a ha).1, old b (h.row b hb).1]; exact hab
    · simp at hb; subst hb
      rw [old a (h.row a ha).1, setF_same]; exact h.top a
  · rw [hxv]
    rcases List.mem_append.mp hi with a | a
    · rw [old i (h.row i a).1]; exact h.low i a
    · simp at a; subst a; rw [setF_same]; omega
  · rw [hxv, all]; split
    · omega
    · exact h.top i
  · by_cases q : k = c
    · subst q; rw [hy, setF_same]; omega
    · have := h.arcs k (by omega) hl e
      rw [old _ this]; exact this

/-- A round ends. -/
theorem BfIn.fin {N to x c : Nat} {ar : Arcs} {f : Nat → Int} {r : List Nat} {D : Nat → Prop} (h : BfIn N ar to f r D x c) (hc : ar.length ≤ c) : BfSt N ar to f r (fun i => D i ∨ i = x) := by
  refine ⟨h.zero, h.min, h.only, h.next, fun i hi => ?_, fun i hd => ?_, h.row, h.srt, fun y hy i => ?_⟩
  · rcases h.told i hi with a | a | a
    · exact .inl (.inl a)
    · exact .inl (.inr a)
    · exact .inr a
  · rcases hd with hd | rfl
    · exact h.done i hd
    · exact ⟨h.here.1, fun k hk e => ⟨h.arcs k (by omega) hk e, h.top _⟩⟩
  · have hm : y ∈ r := by
      cases r with
      | nil => simp at hy
      | cons z r => simp at hy; subst hy; simp
    have h1 := h.low y hm
    have h2 := h.top i
    omega

/-- When no one waits the numbers are as Vm asks. -/
theorem BfSt.far {N to : Nat} {ar : Arcs} {f : Nat → Int} {D : Nat → Prop} (h : BfSt N ar to f [] D) : FarOk N ar to f := by
  refine ⟨h.zero, h.only, fun k hk hz => ?_, h.next⟩
  rcases h.told _ hz with a | a
  · exact (h.done _ a).2 k hk rfl
  · simp at a
end Go.Proofs.Ytakenobplljkbab
