/- Contracts that the proof stands on, one behind the other. -/
import Derived.Test.YtedbihlpggficaaP10
/- BoundOf, the program's and the specification's, for every net, list, budget and place in memory. -/
namespace Go.Proofs.Ytedbihlpggficaa
open Go.RowKit
set_option maxRecDepth 10000

/-- The space that is told. -/
def spSea (p : Int) (n : Nat) (L : List (List Int)) (ys : List Int) (bg : Int) : Sea := endS (searchS p n L bg.toNat ys)

theorem SpOk.is {p : Int} {n l : Nat} {L : List (List Int)} {ys : List Int} {bg : Int} {s : Sea} (h : SpOk p n l L ys bg s) : spSea p n L ys bg = s := by unfold spSea; rw [h.sea]; rfl

theorem SpOk.goodAt {p : Int} {n l : Nat} {L : List (List Int)} {ys : List Int} {bg : Int} {s : Sea} (h : SpOk p n l L ys bg s) {k : Nat} (hk : k < s.ms.length) : (s.ms.getD k []).length = l ∧ ∀ i, 0 ≤ (s.ms.getD k []).getD i 0 ∧ (s.ms.getD k []).getD i 0 ≤ 50 := by
  obtain ⟨h1, h2, h3⟩ := goodB_parts (h.ok.goodAt hk)
  have := h.hl
  exact ⟨by omega, h3⟩

theorem SpOk.l16 {p : Int} {n l : Nat} {L : List (List Int)} {ys : List Int} {bg : Int} {s : Sea} (h : SpOk p n l L ys bg s) : l ≤ 16 := by have := h.hl; have := h.hp; omega
theorem SpOk.m4 {p : Int} {n l : Nat} {L : List (List Int)} {ys : List Int} {bg : Int} {s : Sea} (h : SpOk p n l L ys bg s) : s.ms.length ≤ 400 := Nat.le_trans h.ok.le h.b4

def mostQ (a b : Int) : Int := if b < a then a else b


/-- The greatest number of a place among the first k marks. -/
def bdK (ms : List (List Int)) (q k : Nat) : Int := (ms.take k).foldl (fun b m => mostQ b (m.getD q 0)) 0

theorem bdK_succ {ms : List (List Int)} {q k : Nat} (hk : k < ms.length) : bdK ms q (k + 1) = mostQ (bdK ms q k) ((ms.getD k []).getD q 0) := by
  unfold bdK
  rw [List.take_add_one, List.getElem?_eq_getElem hk, List.foldl_append]
  simp only [Option.toList_some, List.foldl_cons, List.foldl_nil]
  rw [show ms.getD k [] = ms[k] by rw [List.getD_eq_getElem?_getD, List.getElem?_eq_getElem hk]; rfl]

def bdOk (p : Int) (n : Nat) (L : List (List Int)) (ys : List Int) (bg q : Int) : Bool := decide (spCode p n L ys bg = 1) && inB q 0 (p - 1)
def bdR (p : Int) (n : Nat) (L : List (List Int)) (ys : List Int) (bg q : Int) : Int := if bdOk p n L ys bg q then bdK (spSea p n L ys bg).ms q.toNat (spSea p n L ys bg).ms.length else 0

/-- How BoundOf ends. -/
def BdEnd (p : Int) (n : Nat) (L : List (List Int)) (ys : List Int) (bg q : Int) (w : World) (e : Ending) (w' : World) : Prop :=
  e = .returned (.tuple #[.int .i64 (bdR p n L ys bg q), .bool (bdOk p n L ys bg q)]) ∧ Below w.heap.size w w'

theorem bdEnd_no {p : Int} {n : Nat} {L : List (List Int)} {ys : List Int} {bg q : Int} {w w' : World} (h : bdOk p n L ys bg q = false) (hb : Below w.heap.size w w') : BdEnd p n L ys bg q w (.returned (.tuple #[.int .i64 0, .bool false])) w' := by
  refine ⟨?_, hb⟩
  unfold bdR; rw [h]; rfl

theorem bdEnd_yes {p : Int} {n l : Nat} {L : List (List Int)} {ys : List Int} {bg : Int} {q : Nat} {s : Sea} {w w' : World} (hc : spCode p n L ys bg = 1) (hq : inB (q : Int) 0 (p - 1) = true) (hs : SpOk p n l L ys bg s) (hb : Below w.heap.size w w') : BdEnd p n L ys bg (q : Int) w (.returned (.tuple #[.int .i64 (bdK s.ms q s.ms.length), .bool true])) w' := by
  refine ⟨?_, hb⟩
  have h : bdOk p n L ys bg (q : Int) = true := by unfold bdOk; rw [hq, hc]; rfl
  unfold bdR; rw [h, if_pos rfl, hs.is, Int.toNat_natCast]

theorem bdOk_code {p : Int} {n : Nat} {L : List (List Int)} {ys : List Int} {bg q : Int} (h : spCode p n L ys bg ≠ 1) : bdOk p n L ys bg q = false := by unfold bdOk; simp [h]
theorem bdOk_place {p : Int} {n : Nat} {L : List (List Int)} {ys : List Int} {bg q : Int} (h : inB q 0 (p - 1) = false) : bdOk p n L ys bg q = false := by unfold bdOk; rw [h, Bool.and_false]

theorem bdK_small {ms : List (List Int)} {q : Nat} (h : ∀ k, k < ms.length → 0 ≤ (ms.getD k []).getD q 0 ∧ (ms.getD k []).getD q 0 ≤ 50) : ∀ k, k ≤ ms.length → 0 ≤ bdK ms q k ∧ bdK ms q k ≤ 50 := by
  intro k
  induction k with
  | zero => intro _; simp [bdK]
  | succ k ih =>
    intro hk
    have := ih (by omega)
    have := h k (by omega)
    rw [bdK_succ (by omega)]
    unfold mostQ
    split <;> omega




end Go.Proofs.Ytedbihlpggficaa


/- spaceAndTokens of the program; CanCome of both. -/
namespace Go.Proofs.Ytedbihlpggficaa
open Go.RowKit
set_option maxRecDepth 10000

/-- Whether the space is told whole and the list is a marking. -/
def saOk (p : Int) (n : Nat) (L : List (List Int)) (ys : List Int) (bg : Int) (xs : List Int) : Bool := (spCode p n L ys bg == 1) && goodB p xs

/-- How spaceAndTokens ends. -/
def SaEnd (p : Int) (n l nx : Nat) (L : List (List Int)) (ys : List Int) (bg : Int) (xs : List Int) (w : World) (e : Ending) (w' : World) : Prop :=
  Below w.heap.size w w' ∧
    ((saOk p n L ys bg xs = true ∧ ∃ s B BS mb G aa ac, SpOk p n l L ys bg s ∧ SpSt B w' p n l L s BS mb G (.slice aa s.ar.length ac) ∧ e = .returned (.tuple #[.agg (spV p n BS mb G s.ms.length (.slice aa s.ar.length ac)), .agg (packOf xs nx), .bool true])) ∨
     (saOk p n L ys bg xs = false ∧ ∃ k, e = .returned (.tuple #[.agg spZ, .agg (packOf xs k), .bool false])))

theorem TokAll.kept {w w' : World} {G l : Nat} {ms : List (List Int)} (h : TokAll w G l ms) (hk : w'.heap[G]? = w.heap[G]?) : TokAll w' G l ms :=
  ⟨(Array.getElem?_eq_some_iff.1 (hk.trans (Array.getElem?_eq_getElem h.lt))).1, fun i hi j v hv => by rw [← h.cells i hi j v hv]; simp only [World.cell?, hk]⟩

/-- A space stays where its blocks stay. -/
theorem SpSt.kept {B : Nat} {w w' : World} {p : Int} {n l : Nat} {L : List (List Int)} {s : Sea} {BS mb G : Nat} {av : Value} (h : SpSt B w p n l L s BS mb G av) (hk : ∀ g, B ≤ g → g < w.heap.size → w'.heap[g]? = w.heap[g]?) : SpSt B w' p n l L s BS mb G av :=
  ⟨h.steps.kept (hk BS h.hBS h.steps.lt), h.map.kept (hk mb h.hmb h.map.lt), h.toks.kept (hk G h.hG h.toks.lt), ownsRow_kept h.arcs fun g hg => hk g (own_lt h.arcs hg).1 (own_lt h.arcs hg).2, h.hBS, h.hmb, h.hG⟩

theorem spV_one (p : Int) (n BS mb G N : Nat) (a : Option Addr) (x c : Nat) : (spV p n BS mb G N (.slice a x c)).all (·.oneCell') = true := one5 rfl rfl rfl rfl rfl
theorem spZ_one : spZ.all (·.oneCell') = true := one5 rfl rfl rfl rfl rfl

theorem sa_res {fn : Func} {q r u : Tmp} (hr : fn.results = #[.cell q 73, .cell r 84, .tmp u]) (tmps : Array Value) (W : World) (b d : Nat) (C D : Array Value) (v : Value) (h4 : tmps.getD q undef = .pointer (some ⟨b, 0, none⟩)) (h6 : tmps.getD r undef = .pointer (some ⟨d, 0, none⟩)) (h5 : tmps.getD u undef = v)
    (hs : C.size = 5) (q4 : W.heap[b]? = some (.cells C 73 (0, 0))) (hs2 : D.size = 16) (q6 : W.heap[d]? = some (.cells D 84 (0, 0))) : (results fn tmps).run Try.prog W = .ok (.tuple #[.agg C, .agg D, v]) W := by
  have r1 : (loadVar 73 ⟨b, 0, none⟩).run Try.prog W = .ok (.agg C) W := run_loadVar_row _ _ 73 73 C (0, 0) _ q4 Try.underlying73 rfl (by rw [hs]; exact Try.size73)
  have r2 : (loadVar 84 ⟨d, 0, none⟩).run Try.prog W = .ok (.agg D) W := run_loadVar_row _ _ 84 84 D (0, 0) _ q6 Try.underlying84 rfl (by rw [hs2]; exact Try.size84)
  have e : (results fn tmps).run Try.prog W = ((asAddr (tmps.getD q undef)).run Try.prog W).andThen fun a w1 => ((loadVar 73 a).run Try.prog w1).andThen fun v1 w2 => ((asAddr (tmps.getD r undef)).run Try.prog w2).andThen fun b w3 => ((loadVar 84 b).run Try.prog w3).andThen fun v2 w4 => .ok (.tuple #[v1, v2, tmps.getD u undef]) w4 := by
    simp only [results, hr]
    simp [Sem.run_bind, Result.andThen]
  rw [e, h4, h5, h6]
  show ((loadVar 73 ⟨b, 0, none⟩).run Try.prog W).andThen _ = _
  rw [r1]
  show ((loadVar 84 ⟨d, 0, none⟩).run Try.prog W).andThen _ = _
  rw [r2]
  rfl


set_option maxHeartbeats 1000000 in
theorem spaceTok_any (p : Int) (a am ax : Option Addr) (n c nm cm nx cx : Nat) (L : List (List Int)) (ys xs : List Int) (bg : Int) (w : World) (h : Lists w a (3 * n) L) (rm : Row w am nm ys) (rx : Row w ax nx xs) (hs : sizeN n L ≤ 1048576) (hnm : nm ≤ 1048576) (hnx : nx ≤ 1048576) :
    Calls Try.prog 62 #[.agg #[.int .i64 p, .slice a n c], .slice am nm cm, .int .i64 bg, .slice ax nx cx] w fun e w' => SaEnd p n nm nx L ys bg xs w e w' := by
  have hAl := (below_al w (.cells #[.int .i64 p, .slice a n c] 35)).trans ((below_al (w.alloc (.cells #[.int .i64 p, .slice a n c] 35)) (.cells spZ 73)).mono (by simp))
  have hAl3 := hAl.trans ((below_al ((w.alloc (.cells #[.int .i64 p, .slice a n c] 35)).alloc (.cells spZ 73)) (.cells #[.int .u8 0, .int .u8 0, .int .u8 0, .int .u8 0, .int .u8 0, .int .u8 0, .int .u8 0, .int .u8 0, .int .u8 0, .int .u8 0, .int .u8 0, .int .u8 0, .int .u8 0, .int .u8 0, .int .u8 0, .int .u8 0] 84)).mono hAl.size)
  have HB0 := hide hAl3
  have hN0 := keep (keep (heap_alloc_new w (.cells #[.int .i64 p, .slice a n c] 35)) (below_al (w.alloc (.cells #[.int .i64 p, .slice a n c] 35)) (.cells spZ 73))) (below_al ((w.alloc (.cells #[.int .i64 p, .slice a n c] 35)).alloc (.cells spZ 73)) (.cells #[.int .u8 0, .int .u8 0, .int .u8 0, .int .u8 0, .int .u8 0, .int .u8 0, .int .u8 0, .int .u8 0, .int .u8 0, .int .u8 0, .int .u8 0, .int .u8 0, .int .u8 0, .int .u8 0, .int .u8 0, .int .u8 0] 84))
  have hR0 := keep (heap_alloc2_new w (.cells #[.int .i64 p, .slice a n c] 35) (.cells spZ 73)) (below_al ((w.alloc (.cells #[.int .i64 p, .slice a n c] 35)).alloc (.cells spZ 73)) (.cells #[.int .u8 0, .int .u8 0, .int .u8 0, .int .u8 0, .int .u8 0, .int .u8 0, .int .u8 0, .int .u8 0, .int .u8 0, .int .u8 0, .int .u8 0, .int .u8 0, .int .u8 0, .int .u8 0, .int .u8 0, .int .u8 0] 84))
  have hT0 := heap_alloc_new ((w.alloc (.cells #[.int .i64 p, .slice a n c] 35)).alloc (.cells spZ 73)) (.cells #[.int .u8 0, .int .u8 0, .int .u8 0, .int .u8 0, .int .u8 0, .int .u8 0, .int .u8 0, .int .u8 0, .int .u8 0, .int .u8 0, .int .u8 0, .int .u8 0, .int .u8 0, .int .u8 0, .int .u8 0, .int .u8 0] 84)
  rw [show ((w.alloc (.cells #[.int .i64 p, .slice a n c] 35)).alloc (.cells spZ 73)).heap.size = w.heap.size + 2 by simp] at hT0
  have HL0 := hide (h.below hAl3)
  have HM0 := hide (rm.below hAl3)
  have HX0 := hide (rx.below hAl3)
  clear h rm rx hAl hAl3
  go_enter Try.func62, Try.ntmps62
  go_upto_region 1 with fail
  generalize ((w.alloc (.cells #[.int .i64 p, .slice a n c] 35)).alloc (.cells spZ 73)).alloc (.cells #[.int .u8 0, .int .u8 0, .int .u8 0, .int .u8 0, .int .u8 0, .int .u8 0, .int .u8 0, .int .u8 0, .int .u8 0, .int .u8 0, .int .u8 0, .int .u8 0, .int .u8 0, .int .u8 0, .int .u8 0, .int .u8 0] 84) = v0 at *
  obtain ⟨hc0, hc1⟩ := cells2 hN0
  go_wp2_with fail
  refine (tokens_any p ax nx cx xs _ HX0.out hnx).mono ?_
  rintro e w1 ⟨m, rfl, hm, hb⟩
  have hz0 := HB0.out.size
  have HB1 := hide (HB0.out.trans (hb.mono HB0.out.size))
  have hz1 := HB1.out.size
  have hl8 := row_lt (keep hR0 hb)
  have hl9 := row_lt (keep hT0 hb)
  have hA := below_al w1 (.cells #[.int .u8 0, .int .u8 0, .int .u8 0, .int .u8 0, .int .u8 0, .int .u8 0, .int .u8 0, .int .u8 0, .int .u8 0, .int .u8 0, .int .u8 0, .int .u8 0, .int .u8 0, .int .u8 0, .int .u8 0, .int .u8 0] 84)
  have hg0 := heap_alloc_new w1 (.cells #[.int .u8 0, .int .u8 0, .int .u8 0, .int .u8 0, .int .u8 0, .int .u8 0, .int .u8 0, .int .u8 0, .int .u8 0, .int .u8 0, .int .u8 0, .int .u8 0, .int .u8 0, .int .u8 0, .int .u8 0, .int .u8 0] 84)
  have hV := below_setRow hA w1.heap.size (Nat.le_refl _) (packOf xs m)
  have HB2 := hide (HB1.out.trans (hV.mono HB1.out.size))
  have HN2 := hide (keep (keep hN0 hb) hV)
  have HR8 := hide (keep (keep hR0 hb) hV)
  have HR9 := hide (keep (keep hT0 hb) hV)
  have HT11 := hide (setRow_same hg0 (packOf xs m))
  have hbb := hb.trans (hV.mono hb.size)
  have HL2 := hide (HL0.out.below hbb)
  have HM2 := hide (HM0.out.below hbb)
  have hb11 : w1.heap.size ≠ w.heap.size + 1 ∧ w1.heap.size ≠ w.heap.size + 2 := by omega
  clear hb hbb hV hA HB0 HB1 HL0 HM0 HX0 hN0 hR0 hT0 hc0 hc1
  go_upto_region 2 with ((show wpList _ _ _ (⟨none, .store 84 (.tmp 11) (.tmp 20), _, _, _, _⟩ :: _) _ _); refine wpList_store_row rfl 84 _ _ rfl _ _ rfl rfl 84 _ hg0 (by rw [packOf_size]; exact Try.size84) (by rw [packOf_size]; rfl) (packOf_one _ _) ?_)
  clear hg0
  generalize (w1.alloc (.cells #[.int .u8 0, .int .u8 0, .int .u8 0, .int .u8 0, .int .u8 0, .int .u8 0, .int .u8 0, .int .u8 0, .int .u8 0, .int .u8 0, .int .u8 0, .int .u8 0, .int .u8 0, .int .u8 0, .int .u8 0, .int .u8 0] 84)).setRow w1.heap.size (packOf xs m) = v2 at *
  by_cases hgx : goodB p xs = true
  rotate_left
  · have hgx' : goodB p xs = false := by simpa using hgx
    have hso : saOk p n L ys bg xs = false := by unfold saOk; rw [hgx', Bool.and_false]
    have HR9s : Hid ((v2.setRow (w.heap.size + 1) spZ).heap[w.heap.size + 2]? = some (.cells #[.int .u8 0, .int .u8 0, .int .u8 0, .int .u8 0, .int .u8 0, .int .u8 0, .int .u8 0, .int .u8 0, .int .u8 0, .int .u8 0, .int .u8 0, .int .u8 0, .int .u8 0, .int .u8 0, .int .u8 0, .int .u8 0] 84 (0, 0))) := (setRow_other _ _ _ _ (by omega)).trans HR9.out
    have HR8s : Hid (((v2.setRow (w.heap.size + 1) spZ).setRow (w.heap.size + 2) #[.int .u8 0, .int .u8 0, .int .u8 0, .int .u8 0, .int .u8 0, .int .u8 0, .int .u8 0, .int .u8 0, .int .u8 0, .int .u8 0, .int .u8 0, .int .u8 0, .int .u8 0, .int .u8 0, .int .u8 0, .int .u8 0]).heap[w.heap.size + 1]? = some (.cells spZ 73 (0, 0))) := (setRow_other _ _ _ _ (by omega)).trans (setRow_same HR8.out spZ)
    have HN : Hid (SaEnd p n nm nx L ys bg xs w (.returned (.tuple #[.agg spZ, .agg #[.int .u8 0, .int .u8 0, .int .u8 0, .int .u8 0, .int .u8 0, .int .u8 0, .int .u8 0, .int .u8 0, .int .u8 0, .int .u8 0, .int .u8 0, .int .u8 0, .int .u8 0, .int .u8 0, .int .u8 0, .int .u8 0], .bool false])) ((v2.setRow (w.heap.size + 1) spZ).setRow (w.heap.size + 2) #[.int .u8 0, .int .u8 0, .int .u8 0, .int .u8 0, .int .u8 0, .int .u8 0, .int .u8 0, .int .u8 0, .int .u8 0, .int .u8 0, .int .u8 0, .int .u8 0, .int .u8 0, .int .u8 0, .int .u8 0, .int .u8 0])) :=
      ⟨below_setRow (below_setRow HB2.out _ (by omega) _) _ (by omega) _, .inr ⟨hso, 0, by rw [packOf_zero]⟩⟩
    have hz1 : (#[.int .u8 0, .int .u8 0, .int .u8 0, .int .u8 0, .int .u8 0, .int .u8 0, .int .u8 0, .int .u8 0, .int .u8 0, .int .u8 0, .int .u8 0, .int .u8 0, .int .u8 0, .int .u8 0, .int .u8 0, .int .u8 0] : Array Value).all (·.oneCell') = true := by rw [← packOf_zero xs]; exact packOf_one _ _
    rw [hgx']
    clear hgx hgx' hso
    go_wp2_with (first
      | ((show wpList _ _ _ (⟨none, .store 73 (.tmp 8) (.tmp 24), _, _, _, _⟩ :: _) _ _); refine wpList_store_row rfl 73 _ _ rfl _ _ rfl rfl 73 _ HR8.out Try.size73 rfl spZ_one ?_)
      | ((show wpList _ _ _ (⟨none, .store 84 (.tmp 9) (.tmp 25), _, _, _, _⟩ :: _) _ _); refine wpList_store_row rfl 84 _ _ rfl _ _ rfl rfl 84 _ HR9s.out Try.size84 rfl hz1 ?_))
    refine bodyPost_ret (v := .tuple #[.agg spZ, .agg #[.int .u8 0, .int .u8 0, .int .u8 0, .int .u8 0, .int .u8 0, .int .u8 0, .int .u8 0, .int .u8 0, .int .u8 0, .int .u8 0, .int .u8 0, .int .u8 0, .int .u8 0, .int .u8 0, .int .u8 0, .int .u8 0], .bool false]) ?_ rfl HN.out
    exact sa_res Try.results62 _ _ (w.heap.size + 1) (w.heap.size + 2) _ _ _ rfl rfl rfl rfl HR8s.out rfl (setRow_same HR9s.out _)
  have hmx : m = nx := hm.out hgx
  subst hmx
  rw [hgx]
  have HSP := hide (spaceOf_any p a am n c nm cm L ys bg _ HL2.out HM2.out hs hnm)
  obtain ⟨hc0, hc1⟩ := cells2 HN2.out
  go_wp2_with fail
  refine HSP.out.mono ?_
  rintro e w4 ⟨hb, hxx⟩
  have HB4 := hide (HB2.out.trans (hb.mono HB2.out.size))
  have HR84 := hide (keep HR8.out hb)
  have HR94 := hide (keep HR9.out hb)
  have HT4 := hide (keep HT11.out hb)
  have hz4 := hb.size
  have hl11 := row_lt HT11.out
  have hb2 : w.heap.size + 2 < v2.heap.size := by omega
  generalize v2.heap.size = b2 at *
  obtain ⟨sv, z, rfl, hsz, hone, HF⟩ : ∃ sv z, e = .returned (.tuple #[.agg sv, .int .i64 z]) ∧ sv.size = 5 ∧ sv.all (·.oneCell') = true ∧ Hid (∀ W', (∀ g, b2 ≤ g → g < w4.heap.size → W'.heap[g]? = w4.heap[g]?) → Below w.heap.size w W' → SaEnd p n nm m L ys bg xs w (.returned (.tuple #[.agg sv, .agg (packOf xs m), .bool (z == 1)])) W') := by
    rcases hxx with ⟨hcode, s, BS, mb, G, av, hok, hst, ⟨aa, ac, rfl⟩, rfl⟩ | ⟨hcode, rfl⟩
    · exact ⟨_, _, rfl, rfl, spV_one _ _ _ _ _ _ _ _ _, fun W' h4 h0 => ⟨h0, .inl ⟨by unfold saOk; rw [hcode, hgx]; rfl, s, _, BS, mb, G, aa, ac, hok, hst.kept h4, rfl⟩⟩⟩
    · refine ⟨_, _, rfl, rfl, spZ_one, fun W' h4 h0 => ⟨h0, .inr ⟨by unfold saOk; rw [Bool.and_eq_false_iff]; exact .inl (by simpa using hcode), m, ?_⟩⟩⟩
      have : ((spCode p n L ys bg : Int) == 1) = false := by simp; omega
      rw [this]
  clear hxx hb HB2 HR8 HR9 HT11 HN2 HL2 HM2 HSP hc0 hc1 hm hgx v2
  have hA := below_al w4 (.cells spZ 73)
  have hg0 := heap_alloc_new w4 (.cells spZ 73)
  have hV := below_setRow hA w4.heap.size (Nat.le_refl _) sv
  have HB5 := hide (HB4.out.trans (hV.mono HB4.out.size))
  have HR85 := hide (keep HR84.out hV)
  have HR95 := hide (keep HR94.out hV)
  have HT5 := hide (keep HT4.out hV)
  have HV5 := hide (setRow_same hg0 sv)
  have HF5 : Hid (∀ W', (∀ g, b2 ≤ g → g < w4.heap.size → W'.heap[g]? = ((w4.alloc (.cells spZ 73)).setRow w4.heap.size sv).heap[g]?) → Below w.heap.size w W' → SaEnd p n nm m L ys bg xs w (.returned (.tuple #[.agg sv, .agg (packOf xs m), .bool (z == 1)])) W') := fun W' h4 h0 => HF.out W' (fun g g1 g2 => (h4 g g1 g2).trans (hV.block g g2)) h0
  clear hV hA HB4 HR84 HR94 HT4 HF
  go_upto_region 5 with ((show wpList _ _ _ (⟨none, .store 73 (.tmp 13) (.tmp 31), _, _, _, _⟩ :: _) _ _); refine wpList_store_row rfl 73 _ _ rfl _ _ rfl rfl 73 _ hg0 (by rw [hsz]; exact Try.size73) (by rw [hsz]; rfl) hone ?_)
  clear hg0
  have hb13 : w4.heap.size ≠ w.heap.size + 1 ∧ w4.heap.size ≠ w.heap.size + 2 ∧ w1.heap.size < w4.heap.size := by omega
  generalize (w4.alloc (.cells spZ 73)).setRow w4.heap.size sv = v5 at *
  have HB6 := hide (HB5.out.drew)
  have HR86 := hide (keep HR85.out (Below.refl _ v5).drew)
  have HR96 := hide (keep HR95.out (Below.refl _ v5).drew)
  have HT6 := hide (keep HT5.out (Below.refl _ v5).drew)
  have HV6 := hide (keep HV5.out (Below.refl _ v5).drew)
  have HF6 : Hid (∀ W', (∀ g, b2 ≤ g → g < w4.heap.size → W'.heap[g]? = v5.drew.heap[g]?) → Below w.heap.size w W' → SaEnd p n nm m L ys bg xs w (.returned (.tuple #[.agg sv, .agg (packOf xs m), .bool (z == 1)])) W') := fun W' h4 h0 => HF5.out W' (fun g g1 g2 => h4 g g1 g2) h0
  clear HB5 HR85 HR95 HT5 HV5 HF5
  refine wp_region_held_drew (S := fun W => W.heap[w4.heap.size]? = some (.cells sv 73 (0, 0)) ∧ W.heap[w1.heap.size]? = some (.cells (packOf xs m) 84 (0, 0))) (by kernel_rfl) ?_ (fun hHeld => ?_)
  · exact ⟨HV6.out, HT6.out⟩
  generalize v5.drew = v6 at *
  refine take_yes (i := 0) (some 33) (.agg sv) rfl rfl (by kernel_rfl) (by kernel_rfl) (by kernel_rfl) (fun _ _ _ h => h) (by rfl) ?_ (by assumption) ?_
  · intro W' hSw
    obtain ⟨hz0, hz1⟩ := hSw
    exact exec_load_row 73 _ rfl _ rfl 73 _ _ _ hz0 Try.underlying73 rfl (by rw [hsz]; exact Try.size73)
  simp only [Act.put, List.setIfInBounds_toArray, List.set_cons_zero, List.set_cons_succ]
  refine take_yes (i := 1) (some 34) (.agg (packOf xs m)) rfl rfl (by kernel_rfl) (by kernel_rfl) (by kernel_rfl) (fun _ _ _ h => h) (by rfl) ?_ (by assumption) ?_
  · intro W' hSw
    obtain ⟨hz0, hz1⟩ := hSw
    exact exec_load_row 84 _ rfl _ rfl 84 _ _ _ hz1 Try.underlying84 rfl (by rw [packOf_size]; exact Try.size84)
  simp only [Act.put, List.setIfInBounds_toArray, List.set_cons_zero, List.set_cons_succ]
  refine take_yes (i := 2) (some 35) (.int .i64 z) rfl rfl (by kernel_rfl) (by kernel_rfl) (by kernel_rfl) (fun _ _ _ h => h) (by rfl) ?_ (by assumption) ?_
  · intro W' hSw
    go_simp
  simp only [Act.put, List.setIfInBounds_toArray, List.set_cons_zero, List.set_cons_succ]
  refine take_yes (i := 3) (some 36) (.bool (z == 1)) rfl rfl (by kernel_rfl) (by kernel_rfl) (by kernel_rfl) (fun _ _ _ h => h) (by rfl) ?_ (by assumption) ?_
  · intro W' hSw
    go_simp
  simp only [Act.put, List.setIfInBounds_toArray, List.set_cons_zero, List.set_cons_succ]
  have HR97 := hide ((setRow_otherW v6 (show w.heap.size + 2 ≠ w.heap.size + 1 by omega) sv).trans HR96.out)
  have HN := hide (HF6.out _ (fun g g1 _ => (setRow_otherW _ (show g ≠ w.heap.size + 2 by omega) _).trans (setRow_otherW _ (show g ≠ w.heap.size + 1 by omega) _)) (below_setRow (below_setRow HB6.out _ (by omega) sv) (w.heap.size + 2) (by omega) (packOf xs m)))
  have h8 := HR86.out
  have h9 := HR97.out
  have hv13 := HV6.out
  have ht11 := HT6.out
  clear HR86 HR96 HV6 HT6 HF6 HB6
  refine store_next (i := 4) rfl rfl (by kernel_rfl) (by rfl) 73 _ _ rfl (w.heap.size + 1) sv rfl rfl 73 _ h8 (by rw [hsz]; exact Try.size73) (by rw [hsz]; rfl) hone ?_ (fun _ => ?_)
  · exact ⟨(setRow_otherW _ hb13.1 _).trans hv13, (setRow_otherW _ hb11.1 _).trans ht11⟩
  refine store_next (i := 5) rfl rfl (by kernel_rfl) (by rfl) 84 _ _ rfl (w.heap.size + 2) (packOf xs m) rfl rfl 84 _ h9 (by rw [packOf_size]; exact Try.size84) (by rw [packOf_size]; rfl) (packOf_one _ _) ?_ (fun _ => ?_)
  · exact ⟨(setRow_otherW _ hb13.2.1 _).trans ((setRow_otherW _ hb13.1 _).trans hv13), (setRow_otherW _ hb11.2 _).trans ((setRow_otherW _ hb11.1 _).trans ht11)⟩
  refine take_yes (i := 6) (some 10) (.bool (z == 1)) rfl rfl (by kernel_rfl) (by kernel_rfl) (by kernel_rfl) (fun _ _ _ h => h) (by rfl) ?_ (by assumption) ?_
  · intro W' hSw
    go_simp
  simp only [Act.put, List.setIfInBounds_toArray, List.set_cons_zero, List.set_cons_succ]
  refine wpAnyH_done (by kernel_rfl) ?_ _
  go_wp2_with fail
  refine bodyPost_ret (v := .tuple #[.agg sv, .agg (packOf xs m), .bool (z == 1)]) ?_ rfl HN.out
  exact sa_res Try.results62 _ _ (w.heap.size + 1) (w.heap.size + 2) _ _ _ rfl rfl rfl hsz ((setRow_otherW _ (by omega) _).trans (setRow_same h8 _)) (packOf_size _ _) (setRow_same h9 _)

end Go.Proofs.Ytedbihlpggficaa


/- CanCome of both. -/
namespace Go.Proofs.Ytedbihlpggficaa
open Go.RowKit
set_option maxRecDepth 10000

def caR (p : Int) (n : Nat) (L : List (List Int)) (ys : List Int) (bg : Int) (xs : List Int) : Bool := saOk p n L ys bg xs && decide (xs ∈ (spSea p n L ys bg).ms)

/-- How CanCome ends. -/
def CaEnd (p : Int) (n : Nat) (L : List (List Int)) (ys : List Int) (bg : Int) (xs : List Int) (w : World) (e : Ending) (w' : World) : Prop :=
  e = .returned (.tuple #[.bool (caR p n L ys bg xs), .bool (saOk p n L ys bg xs)]) ∧ Below w.heap.size w w'

theorem caEnd_no {p : Int} {n : Nat} {L : List (List Int)} {ys xs : List Int} {bg : Int} {w w' : World} (h : saOk p n L ys bg xs = false) (hb : Below w.heap.size w w') : CaEnd p n L ys bg xs w (.returned (.tuple #[.bool false, .bool false])) w' := by
  refine ⟨?_, hb⟩
  unfold caR; rw [h]; rfl

theorem caEnd_yes {p : Int} {n l : Nat} {L : List (List Int)} {ys xs : List Int} {bg : Int} {s : Sea} {w w' : World} (h : saOk p n L ys bg xs = true) (hs : SpOk p n l L ys bg s) (hb : Below w.heap.size w w') {b : Bool} (hx : decide (xs ∈ s.ms) = b) : CaEnd p n L ys bg xs w (.returned (.tuple #[.bool b, .bool true])) w' := by
  refine ⟨?_, hb⟩
  unfold caR; rw [h, hs.is, hx]; rfl

theorem saOk_parts {p : Int} {n : Nat} {L : List (List Int)} {ys xs : List Int} {bg : Int} (h : saOk p n L ys bg xs = true) : spCode p n L ys bg = 1 ∧ goodB p xs = true := by
  unfold saOk at h; rw [Bool.and_eq_true] at h; exact ⟨by simpa using h.1, h.2⟩
theorem saOk_code {p : Int} {n : Nat} {L : List (List Int)} {ys xs : List Int} {bg : Int} (h : spCode p n L ys bg ≠ 1) : saOk p n L ys bg xs = false := by unfold saOk; simp [h]
theorem saOk_good {p : Int} {n : Nat} {L : List (List Int)} {ys xs : List Int} {bg : Int} (h : goodB p xs = false) : saOk p n L ys bg xs = false := by unfold saOk; rw [h, Bool.and_false]
theorem saOk_yes {p : Int} {n : Nat} {L : List (List Int)} {ys xs : List Int} {bg : Int} (h : spCode p n L ys bg = 1) (hg : goodB p xs = true) : saOk p n L ys bg xs = true := by unfold saOk; rw [h, hg]; rfl

theorem SpOk.lens {p : Int} {n l : Nat} {L : List (List Int)} {ys : List Int} {bg : Int} {s : Sea} (h : SpOk p n l L ys bg s) : ∀ u ∈ s.ms, u.length = l := fun u hu => by
  have := (goodB_parts (h.ok.good u hu)).2.1
  have := h.hl
  omega

theorem wpList_lookQ {P : Program} {ops : Array Oper} {rest : List Oper} {op : Oper} {a : Act} {w : World} {Q : Exit → Act → World → Prop} (hgd : op.guard = none) (t : TypeId) (m x : Operand) (c : Bool) (ho : op.op = .lookup t m x c)
    (mv kv v : Value) (hm : a.eval m = mv) (hx : a.eval x = kv) (hr : (Instr.lookup t mv kv c).run P w = .ok v w)
    (h : wpList P ops Q rest (a.put op.dst v) w) : wpList P ops Q (op :: rest) a w := by
  refine wpList_plain hgd fun K hK => ?_
  have hr := exec_lookup t m x c ho mv kv v hm hx hr
  unfold Oper.wp
  rw [hr]
  exact hK _ _ h




end Go.Proofs.Ytedbihlpggficaa


/- DeadTrans of both: the transitions that no arc of the whole space is by. -/
namespace Go.Proofs.Ytedbihlpggficaa
open Go.RowKit
set_option maxRecDepth 10000

def metB (ar : List (Nat × Nat × Nat)) (t : Nat) : Bool := ar.any fun a => a.2.1 == t
def deadL (n : Nat) (ar : List (Nat × Nat × Nat)) : List Int := numsL (fun t => !metB ar t) n
def dtOk (p : Int) (n : Nat) (L : List (List Int)) (ys : List Int) (bg : Int) : Bool := decide (spCode p n L ys bg = 1)
def dtR (p : Int) (n : Nat) (L : List (List Int)) (ys : List Int) (bg : Int) : List Int := if dtOk p n L ys bg then deadL n (spSea p n L ys bg).ar else []

theorem dtOk_yes {p : Int} {n : Nat} {L : List (List Int)} {ys : List Int} {bg : Int} (h : spCode p n L ys bg = 1) : dtOk p n L ys bg = true := by unfold dtOk; simp [h]
theorem dtOk_no {p : Int} {n : Nat} {L : List (List Int)} {ys : List Int} {bg : Int} (h : spCode p n L ys bg ≠ 1) : dtOk p n L ys bg = false := by unfold dtOk; simp [h]

theorem metB_take {ar : List (Nat × Nat × Nat)} {i x y z : Nat} (h : ar[i]? = some (x, y, z)) (t : Nat) : metB (ar.take (i + 1)) t = (metB (ar.take i) t || y == t) := by
  unfold metB
  rw [List.take_add_one, h, List.any_append]
  simp

theorem arcsL_at : ∀ (ar : List (Nat × Nat × Nat)) (i x y z : Nat), ar[i]? = some (x, y, z) → (arcsL ar)[i * 3]? = some (.int .i64 (x : Int)) ∧ (arcsL ar)[i * 3 + 1]? = some (.int .i64 (y : Int)) ∧ (arcsL ar)[i * 3 + 2]? = some (.int .i64 (z : Int)) := by
  intro ar
  induction ar with
  | nil => intro i x y z h; simp at h
  | cons a r ih =>
    intro i x y z h
    have e : arcsL (a :: r) = [.int .i64 (a.1 : Int), .int .i64 (a.2.1 : Int), .int .i64 (a.2.2 : Int)] ++ arcsL r := by simp [arcsL]
    rw [e]
    cases i with
    | zero => simp at h; subst h; exact ⟨rfl, rfl, rfl⟩
    | succ i =>
      have h' : r[i]? = some (x, y, z) := by simpa using h
      obtain ⟨h1, h2, h3⟩ := ih i x y z h'
      refine ⟨?_, ?_, ?_⟩
      · rw [List.getElem?_append_right (by simp; omega)]; rw [← h1]; congr 1; simp; omega
      · rw [List.getElem?_append_right (by simp; omega)]; rw [← h2]; congr 1; simp; omega
      · rw [List.getElem?_append_right (by simp; omega)]; rw [← h3]; congr 1; simp; omega

/-- An arc in memory. -/
theorem arcs_at {w : World} {B : Nat} {aa : Option Addr} {N ac : Nat} {ar : List (Nat × Nat × Nat)} (h : w.ownsRow B 129 3 (.slice aa N ac) N (arcsL ar)) {i : Nat} (hi : i < N) {x y z : Nat} (ha : ar[i]? = some (x, y, z)) :
    ∃ g, aa = some ⟨g, 0, none⟩ ∧ w.cell? ⟨g, i * 3, none⟩ = some (.int .i64 (x : Int)) ∧ w.cell? ⟨g, i * 3 + 1, none⟩ = some (.int .i64 (y : Int)) ∧ w.cell? ⟨g, i * 3 + 2, none⟩ = some (.int .i64 (z : Int)) := by
  obtain ⟨g, cap, e⟩ : ∃ g cap, Value.slice aa N ac = .slice (some ⟨g, 0, none⟩) N cap := by
    rcases h.2 with ⟨e, _⟩ | ⟨g, cap, cur, e, _⟩
    · simp only [Value.slice.injEq] at e; omega
    · exact ⟨g, cap, e⟩
  simp only [Value.slice.injEq] at e
  obtain ⟨rfl, _, rfl⟩ := e
  obtain ⟨h1, h2, h3⟩ := arcsL_at ar i x y z ha
  refine ⟨g, rfl, ?_, ?_, ?_⟩
  · rw [h.cellAt (i * 3) (by omega), h1]
  · rw [h.cellAt (i * 3 + 1) (by omega), h2]
  · rw [h.cellAt (i * 3 + 2) (by omega), h3]

theorem dtend_yesS {p : Int} {n l : Nat} {L : List (List Int)} {ys : List Int} {bg : Int} {s : Sea} {w w' : World} {v : Value} {m B : Nat} (h : spCode p n L ys bg = 1) (hs : SpOk p n l L ys bg s) (ho : w'.ownsRow B 3 1 v m ((numsL (fun t => !metB s.ar t) n).map (Value.int .i64))) (hb : Below w.heap.size w w') : WEnd (dtOk p n L ys bg) (dtR p n L ys bg) w (.returned (.tuple #[v, .bool true])) w' := by
  obtain ⟨a, c, rfl, hr⟩ := own_row ho
  refine ⟨a, m, c, by rw [dtOk_yes h], ?_, hb⟩
  unfold dtR; rw [dtOk_yes h, if_pos rfl, hs.is]; exact hr

theorem dtend_yesI {p : Int} {n l : Nat} {L : List (List Int)} {ys : List Int} {bg : Int} {s : Sea} {w w' : World} {v : Value} {m B : Nat} (h : spCode p n L ys bg = 1) (hs : SpOk p n l L ys bg s) (ho : w'.ownsRow B 3 1 v m ((numsL (fun t => !metB s.ar t) n).map (Value.int .i64))) (hB : w.heap.size ≤ B) (hb : Below w.heap.size w w') : OEnd (dtOk p n L ys bg) (dtR p n L ys bg) w (.returned (.tuple #[v, .bool true])) w' := by
  obtain ⟨a, b, c, rfl, hb', hr⟩ := own_ob ho
  refine ⟨a, b, m, c, by rw [dtOk_yes h], ?_, Nat.le_trans hB hb', hb⟩
  unfold dtR; rw [dtOk_yes h, if_pos rfl, hs.is]; exact hr

theorem dtend_noS {p : Int} {n : Nat} {L : List (List Int)} {ys : List Int} {bg : Int} {w w' : World} (h : spCode p n L ys bg ≠ 1) (hb : Below w.heap.size w w') : WEnd (dtOk p n L ys bg) (dtR p n L ys bg) w (.returned (.tuple #[.slice none 0 0, .bool false])) w' := by
  refine ⟨none, 0, 0, by rw [dtOk_no h], ⟨?_, .inl rfl⟩, hb⟩
  unfold dtR; rw [dtOk_no h]; rfl

theorem dtend_noI {p : Int} {n : Nat} {L : List (List Int)} {ys : List Int} {bg : Int} {w w' : World} (h : spCode p n L ys bg ≠ 1) (hb : Below w.heap.size w w') : OEnd (dtOk p n L ys bg) (dtR p n L ys bg) w (.returned (.tuple #[.slice none 0 0, .bool false])) w' := by
  refine ⟨none, w.heap.size, 0, 0, by rw [dtOk_no h], ⟨?_, .inl rfl⟩, Nat.le_refl _, hb⟩
  unfold dtR; rw [dtOk_no h]; rfl

theorem arc_get {ar : List (Nat × Nat × Nat)} {i : Nat} (h : i < ar.length) : ∃ x y z, ar[i]? = some (x, y, z) ∧ (x, y, z) ∈ ar := ⟨_, _, _, List.getElem?_eq_getElem h, List.getElem_mem h⟩




end Go.Proofs.Ytedbihlpggficaa


/- DeadTrans of the program. -/
namespace Go.Proofs.Ytedbihlpggficaa
open Go.RowKit
set_option maxRecDepth 10000

theorem Try.info4 : (Try.prog.info? 4).map (fun i => (i.zero, i.size, i.bytes)) = some (some (.bool false), 1, 1) := by kernel_rfl

/-- Block F holds n truths. -/
def BRow (w : World) (F n : Nat) (f : Nat → Bool) : Prop := ∃ C, w.heap[F]? = some (.cells C 4 (0, 0)) ∧ C.size = n ∧ ∀ j, j < n → C[j]? = some (.bool (f j))

theorem BRow.grow {w w' : World} {F n : Nat} {f : Nat → Bool} (h : BRow w F n f) (hb : Below w.heap.size w w') : BRow w' F n f := by
  obtain ⟨C, h1, h2⟩ := h; exact ⟨C, keep h1 hb, h2⟩

theorem BRow.made (w : World) (n : Nat) : BRow (w.alloc (.cells (madeCells #[.bool false] n) 4)) w.heap.size n (fun _ => false) := by
  refine ⟨_, heap_alloc_new _ _, by rw [size_madeCells], fun j hj => ?_⟩
  unfold madeCells
  have e : (j % (#[Value.bool false] : Array Value).size) = 0 := Nat.mod_one j
  rw [Array.getElem?_map, Array.getElem?_range, if_pos hj, Option.map_some, e]
  rfl

theorem BRow.cell {w : World} {F n : Nat} {f : Nat → Bool} (h : BRow w F n f) {j : Nat} (hj : j < n) : w.cell? ⟨F, j, none⟩ = some (.bool (f j)) ∧ w.frozen? ⟨F, j, none⟩ = false := by
  obtain ⟨C, h1, h2, h3⟩ := h
  exact ⟨(cell_of_row w F j C _ _ h1).trans (h3 j hj), frozen_of_row w F j C _ h1⟩

theorem bzero {w : World} {F n : Nat} {ar : List (Nat × Nat × Nat)} (h : BRow w F n (fun _ => false)) : BRow w F n (metB (ar.take 0)) := by
  have e : metB (ar.take 0) = fun _ => false := by funext t; simp [metB]
  rw [e]; exact h

theorem BRow.set {w : World} {F n : Nat} {f f' : Nat → Bool} (h : BRow w F n f) {y : Nat} (hy : y < n) (hf : ∀ t, f' t = (f t || y == t)) : BRow (w.setCell ⟨F, y, none⟩ (.bool true)) F n f' := by
  obtain ⟨C, h1, h2, h3⟩ := h
  refine ⟨C.setIfInBounds y (.bool true), heap_setCell_same _ _ _ _ _ _ h1, by simp [h2], fun j hj => ?_⟩
  rw [Array.getElem?_setIfInBounds, hf j]
  by_cases e : y = j
  · subst e; rw [if_pos rfl, if_pos (by omega)]; simp
  · rw [if_neg e, h3 j hj]; simp [e]



end Go.Proofs.Ytedbihlpggficaa


/- Dead marks: the program's dead, and the search for the first. -/
namespace Go.Proofs.Ytedbihlpggficaa
open Go.RowKit
set_option maxRecDepth 10000

/-- Whether one of the first n is as asked. -/
def anyE (Pd : Nat → Bool) (n : Nat) : Bool := (List.range n).any Pd

theorem anyE_yes {Pd : Nat → Bool} {n k : Nat} (hk : k < n) (h : Pd k = true) : anyE Pd n = true := by
  unfold anyE
  rw [List.any_eq_true]
  exact ⟨k, by simpa using hk, h⟩

theorem anyE_step {Pd : Nat → Bool} {k : Nat} (h : anyE Pd k = false) (he : Pd k = false) : anyE Pd (k + 1) = false := by
  unfold anyE at *
  rw [List.range_succ, List.any_append, h]
  simp [he]

theorem anyE_congr {f g : Nat → Bool} {n : Nat} (h : ∀ i, i < n → f i = g i) : anyE f n = anyE g n := by
  unfold anyE
  rw [Bool.eq_iff_iff, List.any_eq_true, List.any_eq_true]
  constructor
  · rintro ⟨i, hi, hh⟩; exact ⟨i, hi, by rw [← h i (by simpa using hi)]; exact hh⟩
  · rintro ⟨i, hi, hh⟩; exact ⟨i, hi, by rw [h i (by simpa using hi)]; exact hh⟩

theorem numsL_empty (f : Nat → Bool) (n : Nat) : ((numsL f n).length = 0) ↔ anyE f n = false := by
  unfold numsL anyE
  rw [List.length_map, List.length_eq_zero_iff, List.filter_eq_nil_iff, Bool.eq_false_iff, Ne, List.any_eq_true]
  constructor
  · rintro h ⟨x, h1, h2⟩; exact h x h1 h2
  · intro h x h1 h2; exact h ⟨x, h1, h2⟩

/-- Whether nothing can fire. -/
def deadM (n : Nat) (L : List (List Int)) (m : List Int) : Bool := !anyE (canT L m) n

def IdxE (Pd : Nat → Bool) (n : Nat) (w : World) (e : Ending) (w' : World) : Prop := ∃ z : Int, e = .returned (.int .i64 z) ∧ Hid (decide (0 ≤ z) = anyE Pd n) ∧ Below w.heap.size w w'

set_option maxHeartbeats 1000000 in
theorem indexE_any (s : Nat) (Pd : Nat → Bool) (B n : Nat) (L : List (List Int)) (w : World) (h : PartS w B (3 * n) (3 * n) L) (hn : n ≤ 24)
    (hc : ∀ W k, k < n → Calls Try.prog 103 #[.int .u16 (s : Int), .agg #[.int .u16 (maskL (L.getD (3 * k) []) : Int), .int .u16 (maskL (L.getD (3 * k + 1) []) : Int), .int .u16 (maskL (L.getD (3 * k + 2) []) : Int)]] W fun e W' => e = .returned (.bool (Pd k)) ∧ Below W.heap.size W W') :
    Calls Try.prog 119 #[.slice (some ⟨B, 0, none⟩) n n, .func (.func 103) #[.int .u16 (s : Int)] #[]] w fun e w' => IdxE Pd n w e w' := by
  have HP := hide h
  have HC := hide hc
  clear h hc
  go_enter Try.func119, Try.ntmps119
  go_wp2_with fail
  go_loopw [8] (fun i wr => ∃ k : Nat, k ≤ n ∧ i = .int .i64 k ∧ Hid (anyE Pd k = false) ∧ Hid (Below w.heap.size w wr)) (fun i _ => n - (intOf i).toNat)
  case atStart => exact ⟨0, Nat.zero_le _, rfl, rfl, Below.refl _ _⟩
  case round =>
    obtain ⟨k, hk, rfl, hu, hbw⟩ := hrel
    by_cases hlt : k < n
    rotate_left
    · have hk' : k = n := by omega
      subst hk'
      have HE : Hid (IdxE Pd k w (.returned (.int .i64 (-1))) wr) := ⟨-1, rfl, by rw [hu.out]; rfl, hbw.out⟩
      go_wp2_with fail
      go_ret
      exact HE.out
    obtain ⟨hc0, hc1, hc2⟩ := (HP.out.grow hbw.out).at2 hlt
    have HH := hide (HC.out wr k hlt)
    cases hh : Pd k
    · have HU := hide (anyE_step hu.out hh)
      rw [hh] at HH
      clear hh hu
      generalize maskL (L.getD (3 * k) []) = s0 at *
      generalize maskL (L.getD (3 * k + 1) []) = s1 at *
      generalize maskL (L.getD (3 * k + 2) []) = s2 at *
      go_wp2_with fail
      refine HH.out.mono ?_
      rintro e w1 ⟨rfl, hb⟩
      have HB := hide (hbw.out.trans (hb.mono hbw.out.size))
      clear hb HH hc0 hc1 hc2
      go_wp2_with fail
      go_roundw
      case rel => exact ⟨k + 1, by omega, by go_num, HU, HB⟩
      case measure => simp [intOf]; omega
    · have HY := hide (anyE_yes hlt hh)
      rw [hh] at HH
      clear hh hu
      generalize maskL (L.getD (3 * k) []) = s0 at *
      generalize maskL (L.getD (3 * k + 1) []) = s1 at *
      generalize maskL (L.getD (3 * k + 2) []) = s2 at *
      go_wp2_with fail
      refine HH.out.mono ?_
      rintro e w1 ⟨rfl, hb⟩
      have HE : Hid (IdxE Pd n w (.returned (.int .i64 (k : Int))) w1) := ⟨k, rfl, by rw [HY.out]; simp [Hid], hbw.out.trans (hb.mono hbw.out.size)⟩
      clear hb HH hc0 hc1 hc2
      go_wp2_with fail
      go_ret
      exact HE.out

set_option maxHeartbeats 400000 in
theorem containsE_any (s : Nat) (Pd : Nat → Bool) (B n : Nat) (L : List (List Int)) (w : World) (h : PartS w B (3 * n) (3 * n) L) (hn : n ≤ 24)
    (hc : ∀ W k, k < n → Calls Try.prog 103 #[.int .u16 (s : Int), .agg #[.int .u16 (maskL (L.getD (3 * k) []) : Int), .int .u16 (maskL (L.getD (3 * k + 1) []) : Int), .int .u16 (maskL (L.getD (3 * k + 2) []) : Int)]] W fun e W' => e = .returned (.bool (Pd k)) ∧ Below W.heap.size W W') :
    Calls Try.prog 106 #[.slice (some ⟨B, 0, none⟩) n n, .func (.func 103) #[.int .u16 (s : Int)] #[]] w fun e w' => e = .returned (.bool (anyE Pd n)) ∧ Below w.heap.size w w' := by
  have HI := hide (indexE_any s Pd B n L w h hn hc)
  clear h hc
  go_enter Try.func106, Try.ntmps106
  go_wp2_with fail
  refine HI.out.mono ?_
  rintro e w1 ⟨z, rfl, hz, hb⟩
  have HB := hide hb
  clear hb HI
  go_wp2_with fail
  go_ret
  exact ⟨ret_bool hz.out, HB.out⟩

/-- The first mark that is as asked is the k-th. -/
def FdAt (f : List Int → Bool) (ms : List (List Int)) (k : Nat) : Prop := k < ms.length ∧ (∀ i, i < k → f (ms.getD i []) = false) ∧ f (ms.getD k []) = true

def IdxT (f : List Int → Bool) (ms : List (List Int)) (w : World) (e : Ending) (w' : World) : Prop :=
  ∃ z : Int, e = .returned (.int .i64 z) ∧ Hid ((∃ k : Nat, z = (k : Int) ∧ FdAt f ms k) ∨ (z = -1 ∧ ∀ i, i < ms.length → f (ms.getD i []) = false)) ∧ Below w.heap.size w w'

end Go.Proofs.Ytedbihlpggficaa


/- FirstDead of both. -/
namespace Go.Proofs.Ytedbihlpggficaa
open Go.RowKit
set_option maxRecDepth 10000

def fdOk (p : Int) (n : Nat) (L : List (List Int)) (ys : List Int) (bg : Int) : Bool := decide (spCode p n L ys bg = 1) && (spSea p n L ys bg).ms.any (deadM n L)
def fdR (p : Int) (n : Nat) (L : List (List Int)) (ys : List Int) (bg : Int) : List Int := if fdOk p n L ys bg then ((spSea p n L ys bg).ms.find? (deadM n L)).getD [] else []

theorem fd_at {f : List Int → Bool} {ms : List (List Int)} {k : Nat} (h : FdAt f ms k) : ms.any f = true ∧ ms.find? f = some (ms.getD k []) := by
  obtain ⟨hk, h1, h2⟩ := h
  have e : ∀ i (hi : i < ms.length), ms.getD i [] = ms[i] := fun i hi => by rw [List.getD_eq_getElem?_getD, List.getElem?_eq_getElem hi]; rfl
  refine ⟨List.any_eq_true.2 ⟨_, List.getElem_mem hk, by rw [← e k hk]; exact h2⟩, ?_⟩
  rw [List.find?_eq_some_iff_getElem]
  refine ⟨h2, k, hk, (e k hk).symm, fun j hj => ?_⟩
  have := h1 j hj
  rw [e j (by omega)] at this
  simp [this]

theorem fd_none {f : List Int → Bool} {ms : List (List Int)} (h : ∀ i, i < ms.length → f (ms.getD i []) = false) : ms.any f = false := by
  rw [Bool.eq_false_iff, Ne, List.any_eq_true]
  rintro ⟨x, hx, hf⟩
  obtain ⟨i, hi, rfl⟩ := List.getElem_of_mem hx
  have := h i hi
  rw [List.getD_eq_getElem?_getD, List.getElem?_eq_getElem hi] at this
  simp at this; rw [this] at hf; cases hf

theorem fdOk_code {p : Int} {n : Nat} {L : List (List Int)} {ys : List Int} {bg : Int} (h : spCode p n L ys bg ≠ 1) : fdOk p n L ys bg = false := by unfold fdOk; simp [h]
theorem fdOk_none {p : Int} {n l : Nat} {L : List (List Int)} {ys : List Int} {bg : Int} {s : Sea} (hs : SpOk p n l L ys bg s) (h : ∀ i, i < s.ms.length → deadM n L (s.ms.getD i []) = false) : fdOk p n L ys bg = false := by unfold fdOk; rw [hs.is, fd_none h, Bool.and_false]
theorem fdOk_at {p : Int} {n l : Nat} {L : List (List Int)} {ys : List Int} {bg : Int} {s : Sea} (hc : spCode p n L ys bg = 1) (hs : SpOk p n l L ys bg s) {k : Nat} (h : FdAt (deadM n L) s.ms k) : fdOk p n L ys bg = true ∧ fdR p n L ys bg = s.ms.getD k [] := by
  obtain ⟨h1, h2⟩ := fd_at h
  have e : fdOk p n L ys bg = true := by unfold fdOk; rw [hs.is, h1, hc]; rfl
  refine ⟨e, ?_⟩
  unfold fdR; rw [e, if_pos rfl, hs.is, h2]; rfl

theorem fdend_noS {p : Int} {n : Nat} {L : List (List Int)} {ys : List Int} {bg : Int} {w w' : World} (h : fdOk p n L ys bg = false) (hb : Below w.heap.size w w') : WEnd (fdOk p n L ys bg) (fdR p n L ys bg) w (.returned (.tuple #[.slice none 0 0, .bool false])) w' := by
  refine ⟨none, 0, 0, by rw [h], ⟨?_, .inl rfl⟩, hb⟩
  unfold fdR; rw [h]; rfl

theorem fdend_noI {p : Int} {n : Nat} {L : List (List Int)} {ys : List Int} {bg : Int} {w w' : World} (h : fdOk p n L ys bg = false) (hb : Below w.heap.size w w') : OEnd (fdOk p n L ys bg) (fdR p n L ys bg) w (.returned (.tuple #[.slice none 0 0, .bool false])) w' := by
  refine ⟨none, w.heap.size, 0, 0, by rw [h], ⟨?_, .inl rfl⟩, Nat.le_refl _, hb⟩
  unfold fdR; rw [h]; rfl

theorem fdend_yesS {p : Int} {n l : Nat} {L : List (List Int)} {ys : List Int} {bg : Int} {s : Sea} {w w' : World} (hc : spCode p n L ys bg = 1) (hs : SpOk p n l L ys bg s) {k : Nat} (h : FdAt (deadM n L) s.ms k) {g c : Nat} (ho : OutR w' g l (s.ms.getD k [])) (hb : Below w.heap.size w w') : WEnd (fdOk p n L ys bg) (fdR p n L ys bg) w (.returned (.tuple #[.slice (some ⟨g, 0, none⟩) l c, .bool true])) w' := by
  obtain ⟨h1, h2⟩ := fdOk_at hc hs h
  exact ⟨_, l, c, by rw [h1], by rw [h2]; exact ho.row, hb⟩

theorem fdend_yesI {p : Int} {n l : Nat} {L : List (List Int)} {ys : List Int} {bg : Int} {s : Sea} {w w' : World} (hc : spCode p n L ys bg = 1) (hs : SpOk p n l L ys bg s) {k : Nat} (h : FdAt (deadM n L) s.ms k) {g : Nat} (ho : w'.heap[g]? = some (.cells (cellsOf (s.ms.getD k [])) 3 (0, 0))) (hg : w.heap.size ≤ g) (hb : Below w.heap.size w w') : OEnd (fdOk p n L ys bg) (fdR p n L ys bg) w (.returned (.tuple #[.slice (some ⟨g, 0, none⟩) l l, .bool true])) w' := by
  obtain ⟨h1, h2⟩ := fdOk_at hc hs h
  have hl := (hs.goodAt h.1).1
  refine ⟨_, g, l, l, by rw [h1], ?_, hg, hb⟩
  rw [h2]
  generalize s.ms.getD k [] = m at *
  refine ⟨hl, .inr ⟨rfl, _, ho, by simp [cellsOf, hl], fun i hi => ?_⟩⟩
  simp [cellsOf, List.getElem?_eq_getElem (show i < m.length by omega)]

theorem listF_fOf {m : List Int} {l : Nat} (h : m.length = l) : listF (fOf m l) l = m := by
  apply List.ext_getElem
  · rw [listF_len]; exact h.symm
  · intro i h1 h2
    have hi : i < l := by rw [listF_len] at h1; exact h1
    simp [listF, fOf, hi, List.getElem?_eq_getElem h2]

theorem dead_len {n : Nat} {L : List (List Int)} {m : List Int} {k : Nat} (h : (numsL (fun i => canB (L.getD (3 * i) []) m) n).length = k) : ((k : Int) == 0) = deadM n L m := by
  have h2 := numsL_empty (fun i => canB (L.getD (3 * i) []) m) n
  unfold deadM
  have e : anyE (canT L m) n = anyE (fun i => canB (L.getD (3 * i) []) m) n := rfl
  rw [e]
  by_cases hk : k = 0
  · rw [h2.1 (by omega), hk]; rfl
  · have : anyE (fun i => canB (L.getD (3 * i) []) m) n = true := by
      cases hx : anyE (fun i => canB (L.getD (3 * i) []) m) n
      · exact absurd (h2.2 hx) (by omega)
      · rfl
    rw [this]; simp; omega

theorem exec_load_tokQ {o : Oper} {a : Act} {w : World} (x : Operand) (ho : o.op = .load 84 x) (g k l : Nat) (hx : a.eval x = .pointer (some ⟨g, k, none⟩)) (m : List Int) (hc : w.rangeAt g k (encQ l m)) : (execOp a.eval o).run Try.prog w = .ok (.value (.agg (packOf m l))) w := by
  have h := run_loadVar_mid (P := Try.prog) w g k 84 (encQ l m) _ hc Try.underlying84 rfl (by rw [encQ_len]; exact Try.size84)
  unfold execOp
  simp only [ho, hx, Instr.loadAt, Instr.sureAddr, Sem.run_bind, Sem.run_pure, Result.andThen_ok, h]
  simp [encQ]


end Go.Proofs.Ytedbihlpggficaa


/- FirstDead of the program. -/
namespace Go.Proofs.Ytedbihlpggficaa
open Go.RowKit
set_option maxRecDepth 10000

theorem cell_kept {w w' : World} {a : Addr} {v : Value} (h : w.cell? a = some v) (hb : Below w.heap.size w w') : w'.cell? a = some v := by
  have hl : a.block < w.heap.size := by
    by_cases hl : a.block < w.heap.size
    · exact hl
    · simp [World.cell?, Array.getElem?_eq_none (show w.heap.size ≤ a.block by omega)] at h
  exact (hb.cell hl).trans h

end Go.Proofs.Ytedbihlpggficaa
