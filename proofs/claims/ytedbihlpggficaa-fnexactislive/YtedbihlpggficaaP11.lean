/- Contracts that the proof stands on, one behind the other. -/
import Derived.Test.YtedbihlpggficaaP10
/- BoundOf, the program's and the specification's, for every net, list, budget and place in memory. -/
namespace Go.Proofs.Ytedbihlpggficaa
open Go.RowKit
set_option maxRecDepth 10000

/-- The space that is told. -/
def spSea (p : Int) (n : Nat) (L : List (List Int)) (ys : List Int) (bg : Int) : Sea := endS (searchS p n L bg.toNat ys)

theorem SpOk.is {p : Int} {n l : Nat} {L : List (List Int)} {ys : List Int} {bg : Int} {s : Sea} (h : SpOk p n l L ys bg s) : spSea p n L ys bg = s := by unfold spSea; rw [h.sea]; rfl

theorem SpOk.goodAt {p : Int} {n l : Nat} {L : List (List Int)} {ys : List Int} {bg : Int} {s : Sea} (h : SpOk p n l L ys bg s) {k : Nat} (hk : k < s.ms.length) : (s.ms.getD k []).length = l ∧ ∀ i, 0 ≤ (s.ms.getD k []).getD i 0 ∧ (s.ms.getD k []).getD i 0 ≤ 50 := by
  obtain ⟨h1, h2, h3⟩ := goodB_parts (h.ok.goodAt hk)
  have := h.hl
  exact ⟨by omega, h3⟩

theorem SpOk.l16 {p : Int} {n l : Nat} {L : List (List Int)} {ys : List Int} {bg : Int} {s : Sea} (h : SpOk p n l L ys bg s) : l ≤ 16 := by have := h.hl; have := h.hp; omega
theorem SpOk.m4 {p : Int} {n l : Nat} {L : List (List Int)} {ys : List Int} {bg : Int} {s : Sea} (h : SpOk p n l L ys bg s) : s.ms.length ≤ 400 := Nat.le_trans h.ok.le h.b4

def mostQ (a b : Int) : Int := if b < a then a else b


/-- The greatest number of a place among the first k marks. -/
def bdK (ms : List (List Int)) (q k : Nat) : Int := (ms.take k).foldl (fun b m => mostQ b (m.getD q 0)) 0

theorem bdK_succ {ms : List (List Int)} {q k : Nat} (hk : k < ms.length) : bdK ms q (k + 1) = mostQ (bdK ms q k) ((ms.getD k []).getD q 0) := by
  unfold bdK
  rw [List.take_add_one, List.getElem?_eq_getElem hk, List.foldl_append]
  simp only [Option.toList_some, List.foldl_cons, List.foldl_nil]
  rw [show ms.getD k [] = ms[k] by rw [List.getD_eq_getElem?_getD, List.getElem?_eq_getElem hk]; rfl]

def bdOk (p : Int) (n : Nat) (L : List (List Int)) (ys : List Int) (bg q : Int) : Bool := decide (spCode p n L ys bg = 1) && inB q 0 (p - 1)
def bdR (p : Int) (n : Nat) (L : List (List Int)) (ys : List Int) (bg q : Int) : Int := if bdOk p n L ys bg q then bdK (spSea p n L ys bg).ms q.toNat (spSea p n L ys bg).ms.length else 0

/-- How BoundOf ends. -/
def BdEnd (p : Int) (n : Nat) (L : List (List Int)) (ys : List Int) (bg q : Int) (w : World) (e : Ending) (w' : World) : Prop :=
  e = .returned (.tuple #[.int .i64 (bdR p n L ys bg q), .bool (bdOk p n L ys bg q)]) ∧ Below w.heap.size w w'

theorem bdEnd_no {p : Int} {n : Nat} {L : List (List Int)} {ys : List Int} {bg q : Int} {w w' : World} (h : bdOk p n L ys bg q = false) (hb : Below w.heap.size w w') : BdEnd p n L ys bg q w (.returned (.tuple #[.int .i64 0, .bool false])) w' := by
  refine ⟨?_, hb⟩
  unfold bdR; rw [h]; rfl

theorem bdEnd_yes {p : Int} {n l : Nat} {L : List (List Int)} {ys : List Int} {bg : Int} {q : Nat} {s : Sea} {w w' : World} (hc : spCode p n L ys bg = 1) (hq : inB (q : Int) 0 (p - 1) = true) (hs : SpOk p n l L ys bg s) (hb : Below w.heap.size w w') : BdEnd p n L ys bg (q : Int) w (.returned (.tuple #[.int .i64 (bdK s.ms q s.ms.length), .bool true])) w' := by
  refine ⟨?_, hb⟩
  have h : bdOk p n L ys bg (q : Int) = true := by unfold bdOk; rw [hq, hc]; rfl
  unfold bdR; rw [h, if_pos rfl, hs.is, Int.toNat_natCast]

theorem bdOk_code {p : Int} {n : Nat} {L : List (List Int)} {ys : List Int} {bg q : Int} (h : spCode p n L ys bg ≠ 1) : bdOk p n L ys bg q = false := by unfold bdOk; simp [h]
theorem bdOk_place {p : Int} {n : Nat} {L : List (List Int)} {ys : List Int} {bg q : Int} (h : inB q 0 (p - 1) = false) : bdOk p n L ys bg q = false := by unfold bdOk; rw [h, Bool.and_false]

theorem bdK_small {ms : List (List Int)} {q : Nat} (h : ∀ k, k < ms.length → 0 ≤ (ms.getD k []).getD q 0 ∧ (ms.getD k []).getD q 0 ≤ 50) : ∀ k, k ≤ ms.length → 0 ≤ bdK ms q k ∧ bdK ms q k ≤ 50 := by
  intro k
  induction k with
  | zero => intro _; simp [bdK]
  | succ k ih =>
    intro hk
    have := ih (by omega)
    have := h k (by omega)
    rw [bdK_succ (by omega)]
    unfold mostQ
    split <;> omega




end Go.Proofs.Ytedbihlpggficaa


/- spaceAndTokens of the program; CanCome of both. -/
namespace Go.Proofs.Ytedbihlpggficaa
open Go.RowKit
set_option maxRecDepth 10000

/-- Whether the space is told whole and the list is a marking. -/
def saOk (p : Int) (n : Nat) (L : List (List Int)) (ys : List Int) (bg : Int) (xs : List Int) : Bool := (spCode p n L ys bg == 1) && goodB p xs

/-- How spaceAndTokens ends. -/
def SaEnd (p : Int) (n l nx : Nat) (L : List (List Int)) (ys : List Int) (bg : Int) (xs : List Int) (w : World) (e : Ending) (w' : World) : Prop :=
  Below w.heap.size w w' ∧
    ((saOk p n L ys bg xs = true ∧ ∃ s B BS mb G aa ac, SpOk p n l L ys bg s ∧ SpSt B w' p n l L s BS mb G (.slice aa s.ar.length ac) ∧ e = .returned (.tuple #[.agg (spV p n BS mb G s.ms.length (.slice aa s.ar.length ac)), .agg (packOf xs nx), .bool true])) ∨
     (saOk p n L ys bg xs = false ∧ ∃ k, e = .returned (.tuple #[.agg spZ, .agg (packOf xs k), .bool false])))

theorem TokAll.kept {w w' : World} {G l : Nat} {ms : List (List Int)} (h : TokAll w G l ms) (hk : w'.heap[G]? = w.heap[G]?) : TokAll w' G l ms :=
  ⟨(Array.getElem?_eq_some_iff.1 (hk.trans (Array.getElem?_eq_getElem h.lt))).1, fun i hi j v hv => by rw [← h.cells i hi j v hv]; simp only [World.cell?, hk]⟩

/-- A space stays where its blocks stay. -/
theorem SpSt.kept {B : Nat} {w w' : World} {p : Int} {n l : Nat} {L : List (List Int)} {s : Sea} {BS mb G : Nat} {av : Value} (h : SpSt B w p n l L s BS mb G av) (hk : ∀ g, B ≤ g → g < w.heap.size → w'.heap[g]? = w.heap[g]?) : SpSt B w' p n l L s BS mb G av :=
  ⟨h.steps.kept (hk BS h.hBS h.steps.lt), h.map.kept (hk mb h.hmb h.map.lt), h.toks.kept (hk G h.hG h.toks.lt), ownsRow_kept h.arcs fun g hg => hk g (own_lt h.arcs hg).1 (own_lt h.arcs hg).2, h.hBS, h.hmb, h.hG⟩

theorem spV_one (p : Int) (n BS mb G N : Nat) (a : Option Addr) (x c : Nat) : (spV p n BS mb G N (.slice a x c)).all (·.oneCell') = true := one5 rfl rfl rfl rfl rfl
theorem spZ_one : spZ.all (·.oneCell') = true := one5 rfl rfl rfl rfl rfl

theorem sa_res {fn : Func} {q r u : Tmp} (hr : fn.results = #[.cell q 73, .cell r 84, .tmp u]) (tmps : Array Value) (W : World) (b d : Nat) (C D : Array Value) (v : Value) (h4 : tmps.getD q undef = .pointer (some ⟨b, 0, none⟩)) (h6 : tmps.getD r undef = .pointer (some ⟨d, 0, none⟩)) (h5 : tmps.getD u undef = v)
    (hs : C.size = 5) (q4 : W.heap[b]? = some (.cells C 73 (0, 0))) (hs2 : D.size = 16) (q6 : W.heap[d]? = some (.cells D 84 (0, 0))) : (results fn tmps).run Try.prog W = .ok (.tuple #[.agg C, .agg D, v]) W := by
  have r1 : (loadVar 73 ⟨b, 0, none⟩).run Try.prog W = .ok (.agg C) W := run_loadVar_row _ _ 73 73 C (0, 0) _ q4 Try.underlying73 rfl (by rw [hs]; exact Try.size73)
  have r2 : (loadVar 84 ⟨d, 0, none⟩).run Try.prog W = .ok (.agg D) W := run_loadVar_row _ _ 84 84 D (0, 0) _ q6 Try.underlying84 rfl (by rw [hs2]; exact Try.size84)
  have e : (results fn tmps).run Try.prog W = ((asAddr (tmps.getD q undef)).run Try.prog W).andThen fun a w1 => ((loadVar 73 a).run Try.prog w1).andThen fun v1 w2 => ((asAddr (tmps.getD r undef)).run Try.prog w2).andThen fun b w3 => ((loadVar 84 b).run Try.prog w3).andThen fun v2 w4 => .ok (.tuple #[v1, v2, tmps.getD u undef]) w4 := by
    simp only [results, hr]
    simp [Sem.run_bind, Result.andThen]
  rw [e, h4, h5, h6]
  show ((loadVar 73 ⟨b, 0, none⟩).run Try.prog W).andThen _ = _
  rw [r1]
  show ((loadVar 84 ⟨d, 0, none⟩).run Try.prog W).andThen _ = _
  rw [r2]
  rfl


set_option maxHeartbeats 1000000 in
theorem spaceTok_any (p : Int) (a am ax : Option Addr) (n c nm cm nx cx : Nat) (L : List (List Int)) (ys xs : List Int) (bg : Int) (w : World) (h : Lists w a (3 * n) L) (rm : Row w am nm ys) (rx : Row w ax nx xs) (hs : sizeN n L ≤ 1048576) (hnm : nm ≤ 1048576) (hnx : nx ≤ 1048576) :
    Calls Try.prog 62 #[.agg #[.int .i64 p, .slice a n c], .slice am nm cm, .int .i64 bg, .slice ax nx cx] w fun e w' => SaEnd p n nm nx L ys bg xs w e w' := by
  have hAl := (below_al w (.cells #[.int .i64 p, .slice a n c] 35)).trans ((below_al (w.alloc (.cells #[.int .i64 p, .slice a n c] 35)) (.cells spZ 73)).mono (by simp))
  have hAl3 := hAl.trans ((below_al ((w.alloc (.cells #[.int .i64 p, .slice a n c] 35)).alloc (.cells spZ 73)) (.cells #[.int .u8 0, .int .u8 0, .int .u8 0, .int .u8 0, .int .u8 0, .int .u8 0, .int .u8 0, .int .u8 0, .int .u8 0, .int .u8 0, .int .u8 0, .int .u8 0, .int .u8 0, .int .u8 0, .int .u8 0, .int .u8 0] 84)).mono hAl.size)
  have HB0 := hide hAl3
  have hN0 := keep (keep (heap_alloc_new w (.cells #[.int .i64 p, .slice a n c] 35)) (below_al (w.alloc (.cells #[.int .i64 p, .slice a n c] 35)) (.cells spZ 73))) (below_al ((w.alloc (.cells #[.int .i64 p, .slice a n c] 35)).alloc (.cells spZ 73)) (.cells #[.int .u8 0, .int .u8 0, .int .u8 0, .int .u8 0, .int .u8 0, .int .u8 0, .int .u8 0, .int .u8 0, .int .u8 0, .int .u8 0, .int .u8 0, .int .u8 0, .int .u8 0, .int .u8 0, .int .u8 0, .int .u8 0] 84))
  have hR0 := keep (heap_alloc2_new w (.cells #[.int .i64 p, .slice a n c] 35) (.cells spZ 73)) (below_al ((w.alloc (.cells #[.int .i64 p, .slice a n c] 35)).alloc (.cells spZ 73)) (.cells #[.int .u8 0, .int .u8 0, .int .u8 0, .int .u8 0, .int .u8 0, .int .u8 0, .int .u8 0, .int .u8 0, .int .u8 0, .int .u8 0, .int .u8 0, .int .u8 0, .int .u8 0, .int .u8 0, .int .u8 0, .int .u8 0] 84))
  have hT0 := heap_alloc_new ((w.alloc (.cells #[.int .i64 p, .slice a n c] 35)).alloc (.cells spZ 73)) (.cells #[.int .u8 0, .int .u8 0, .int .u8 0, .int .u8 0, .int .u8 0, .int .u8 0, .int .u8 0, .int .u8 0, .int .u8 0, .int .u8 0, .int .u8 0, .int .u8 0, .int .u8 0, .int .u8 0, .int .u8 0, .int .u8 0] 84)
  rw [show ((w.alloc (.cells #[.int .i64 p, .slice a n c] 35)).alloc (.cells spZ 73)).heap.size = w.heap.size + 2 by simp] at hT0
  have HL0 := hide (h.below hAl3)
  have HM0 := hide (rm.below hAl3)
  have HX0 := hide (rx.below hAl3)
  clear h rm rx hAl hAl3
  go_enter Try.func62, Try.ntmps62
  go_upto_region 1 with fail
  generalize ((w.alloc (.cells #[.int .i64 p, .slice a n c] 35)).alloc (.cells spZ 73)).alloc (.cells #[.int .u8 0, .int .u8 0, .int .u8 0, .int .u8 0, .int .u8 0, .int .u8 0, .int .u8 0, .int .u8 0, .int .u8 0, .int .u8 0, .int .u8 0, .int .u8 0, .int .u8 0, .int .u8 0, .int .u8 0, .int .u8 0] 84) = v0 at *
  obtain ⟨hc0, hc1⟩ := cells2 hN0
  go_wp2_with fail
  refine (tokens_any p ax nx cx xs _ HX0.out hnx).mono ?_
  rintro e w1 ⟨m, rfl, hm, hb⟩
  have hz0 := HB0.out.size
  have HB1 := hide (HB0.out.trans (hb.mono HB0.out.size))
  have hz1 := HB1.out.size
  have hl8 := row_lt (keep hR0 hb)
  have hl9 := row_lt (keep hT0 hb)
  have hA := below_al w1 (.cells #[.int .u8 0, .int .u8 0, .int .u8 0, .int .u8 0, .int .u8 0, .int .u8 0, .int .u8 0, .int .u8 0, .int .u8 0, .int .u8 0, .int .u8 0, .int .u8 0, .int .u8 0, .int .u8 0, .int .u8 0, .int .u8 0] 84)
  have hg0 := heap_alloc_new w1 (.cells #[.int .u8 0, .int .u8 0, .int .u8 0, .int .u8 0, .int .u8 0, .int .u8 0, .int .u8 0, .int .u8 0, .int .u8 0, .int .u8 0, .int .u8 0, .int .u8 0, .int .u8 0, .int .u8 0, .int .u8 0, .int .u8 0] 84)
  have hV := below_setRow hA w1.heap.size (Nat.le_refl _) (packOf xs m)
  have HB2 := hide (HB1.out.trans (hV.mono HB1.out.size))
  have HN2 := hide (keep (keep hN0 hb) hV)
  have HR8 := hide (keep (keep hR0 hb) hV)
  have HR9 := hide (keep (keep hT0 hb) hV)
  have HT11 := hide (setRow_same hg0 (packOf xs m))
  have hbb := hb.trans (hV.mono hb.size)
  have HL2 := hide (HL0.out.below hbb)
  have HM2 := hide (HM0.out.below hbb)
  have hb11 : w1.heap.size ≠ w.heap.size + 1 ∧ w1.heap.size ≠ w.heap.size + 2 := by omega
  clear hb hbb hV hA HB0 HB1 HL0 HM0 HX0 hN0 hR0 hT0 hc0 hc1
  go_upto_region 2 with ((show wpList _ _ _ (⟨none, .store 84 (.tmp 11) (.tmp 20), _, _, _, _⟩ :: _) _ _); refine wpList_store_row rfl 84 _ _ rfl _ _ rfl rfl 84 _ hg0 (by rw [packOf_size]; exact Try.size84) (by rw [packOf_size]; rfl) (packOf_one _ _) ?_)
  clear hg0
  generalize (w1.alloc (.cells #[.int .u8 0, .int .u8 0, .int .u8 0, .int .u8 0, .int .u8 0, .int .u8 0, .int .u8 0, .int .u8 0, .int .u8 0, .int .u8 0, .int .u8 0, .int .u8 0, .int .u8 0, .int .u8 0, .int .u8 0, .int .u8 0] 84)).setRow w1.heap.size (packOf xs m) = v2 at *
  by_cases hgx : goodB p xs = true
  rotate_left
  · have hgx' : goodB p xs = false := by simpa using hgx
    have hso : saOk p n L ys bg xs = false := by unfold saOk; rw [hgx', Bool.and_false]
    have HR9s : Hid ((v2.setRow (w.heap.size + 1) spZ).heap[w.heap.size + 2]? = some (.cells #[.int .u8 0, .int .u8 0, .int .u8 0, .int .u8 0, .int .u8 0, .int .u8 0, .int .u8 0, .int .u8 0, .int .u8 0, .int .u8 0, .int .u8 0, .int .u8 0, .int .u8 0, .int .u8 0, .int .u8 0, .int .u8 0] 84 (0, 0))) := (setRow_other _ _ _ _ (by omega)).trans HR9.out
    have HR8s : Hid (((v2.setRow (w.heap.size + 1) spZ).setRow (w.heap.size + 2) #[.int .u8 0, .int .u8 0, .int .u8 0, .int .u8 0, .int .u8 0, .int .u8 0, .int .u8 0, .int .u8 0, .int .u8 0, .int .u8 0, .int .u8 0, .int .u8 0, .int .u8 0, .int .u8 0, .int .u8 0, .int .u8 0]).heap[w.heap.size + 1]? = some (.cells spZ 73 (0, 0))) := (setRow_other _ _ _ _ (by omega)).trans (setRow_same HR8.out spZ)
    have HN : Hid (SaEnd p n nm nx L ys bg xs w (.returned (.tuple #[.agg spZ, .agg #[.int .u8 0, .int .u8 0, .int .u8 0, .int .u8 0, .int .u8 0, .int .u8 0, .int .u8 0, .int .u8 0, .int .u8 0, .int .u8 0, .int .u8 0, .int .u8 0, .int .u8 0, .int .u8 0, .int .u8 0, .int .u8 0], .bool false])) ((v2.setRow (w.heap.size + 1) spZ).setRow (w.heap.size + 2) #[.int .u8 0, .int .u8 0, .int .u8 0, .int .u8 0, .int .u8 0, .int .u8 0, .int .u8 0, .int .u8 0, .int .u8 0, .int .u8 0, .int .u8 0, .int .u8 0, .int .u8 0, .int .u8 0, .int .u8 0, .int .u8 0])) :=
      ⟨below_setRow (below_setRow HB2.out _ (by omega) _) _ (by omega) _, .inr ⟨hso, 0, by rw [packOf_zero]⟩⟩
    have hz1 : (#[.int .u8 0, .int .u8 0, .int .u8 0, .int .u8 0, .int .u8 0, .int .u8 0, .int .u8 0, .int .u8 0, .int .u8 0, .int .u8 0, .int .u8 0, .int .u8 0, .int .u8 0, .int .u8 0, .int .u8 0, .int .u8 0] : Array Value).all (·.oneCell') = true := by rw [← packOf_zero xs]; exact packOf_one _ _
    rw [hgx']
    clear hgx hgx' hso
    go_wp2_with (first
      | ((show wpList _ _ _ (⟨none, .store 73 (.tmp 8) (.tmp 24), _, _, _, _⟩ :: _) _ _); refine wpList_store_row rfl 73 _ _ rfl _ _ rfl rfl 73 _ HR8.out Try.size73 rfl spZ_one ?_)
      | ((show wpList _ _ _ (⟨none, .store 84 (.tmp 9) (.tmp 25), _, _, _, _⟩ :: _) _ _); refine wpList_store_row rfl 84 _ _ rfl _ _ rfl rfl 84 _ HR9s.out Try.size84 rfl hz1 ?_))
    refine bodyPost_ret (v := .tuple #[.agg spZ, .agg #[.int .u8 0, .int .u8 0, .int .u8 0, .int .u8 0, .int .u8 0, .int .u8 0, .int .u8 0, .int .u8 0, .int .u8 0, .int .u8 0, .int .u8 0, .int .u8 0, .int .u8 0, .int .u8 0, .int .u8 0, .int .u8 0], .bool false]) ?_ rfl HN.out
    exact sa_res Try.results62 _ _ (w.heap.size + 1) (w.heap.size + 2) _ _ _ rfl rfl rfl rfl HR8s.out rfl (setRow_same HR9s.out _)
  have hmx : m = nx := hm.out hgx
  subst hmx
  rw [hgx]
  have HSP := hide (spaceOf_any p a am n c nm cm L ys bg _ HL2.out HM2.out hs hnm)
  obtain ⟨hc0, hc1⟩ := cells2 HN2.out
  go_wp2_with fail
  refine HSP.out.mono ?_
  rintro e w4 ⟨hb, hxx⟩
  have HB4 := hide (HB2.out.trans (hb.mono HB2.out.size))
  have HR84 := hide (keep HR8.out hb)
  have HR94 := hide (keep HR9.out hb)
  have HT4 := hide (keep HT11.out hb)
  have hz4 := hb.size
  have hl11 := row_lt HT11.out
  have hb2 : w.heap.size + 2 < v2.heap.size := by omega
  generalize v2.heap.size = b2 at *
  obtain ⟨sv, z, rfl, hsz, hone, HF⟩ : ∃ sv z, e = .returned (.tuple #[.agg sv, .int .i64 z]) ∧ sv.size = 5 ∧ sv.all (·.oneCell') = true ∧ Hid (∀ W', (∀ g, b2 ≤ g → g < w4.heap.size → W'.heap[g]? = w4.heap[g]?) → Below w.heap.size w W' → SaEnd p n nm m L ys bg xs w (.returned (.tuple #[.agg sv, .agg (packOf xs m), .bool (z == 1)])) W') := by
    rcases hxx with ⟨hcode, s, BS, mb, G, av, hok, hst, ⟨aa, ac, rfl⟩, rfl⟩ | ⟨hcode, rfl⟩
    · exact ⟨_, _, rfl, rfl, spV_one _ _ _ _ _ _ _ _ _, fun W' h4 h0 => ⟨h0, .inl ⟨by unfold saOk; rw [hcode, hgx]; rfl, s, _, BS, mb, G, aa, ac, hok, hst.kept h4, rfl⟩⟩⟩
    · refine ⟨_, _, rfl, rfl, spZ_one, fun W' h4 h0 => ⟨h0, .inr ⟨by unfold saOk; rw [Bool.and_eq_false_iff]; exact .inl (by simpa using hcode), m, ?_⟩⟩⟩
      have : ((spCode p n L ys bg : Int) == 1) = false := by simp; omega
      rw [this]
  clear hxx hb HB2 HR8 HR9 HT11 HN2 HL2 HM2 HSP hc0 hc1 hm hgx v2
  have hA := below_al w4 (.cells spZ 73)
  have hg0 := heap_alloc_new w4 (.cells spZ 73)
  have hV := below_setRow hA w4.heap.size (Nat.le_refl _) sv
  have HB5 := hide (HB4.out.trans (hV.mono HB4.out.size))
  have HR85 := hide (keep HR84.out hV)
  have HR95 := hide (keep HR94.out hV)
  have HT5 := hide (keep HT4.out hV)
  have HV5 := hide (setRow_same hg0 sv)
  have HF5 : Hid (∀ W', (∀ g, b2 ≤ g → g < w4.heap.size → W'.heap[g]? = ((w4.alloc (.cells spZ 73)).setRow w4.heap.size sv).heap[g]?) → Below w.heap.size w W' → SaEnd p n nm m L ys bg xs w (.returned (.tuple #[.agg sv, .agg (packOf xs m), .bool (z == 1)])) W') := fun W' h4 h0 => HF.out W' (fun g g1 g2 => (h4 g g1 g2).trans (hV.block g g2)) h0
  clear hV hA HB4 HR84 HR94 HT4 HF
  go_upto_region 5 with ((show wpList _ _ _ (⟨none, .store 73 (.tmp 13) (.tmp 31), _, _, _, _⟩ :: _) _ _); refine wpList_store_row rfl 73 _ _ rfl _ _ rfl rfl 73 _ hg0 (by rw [hsz]; exact Try.size73) (by rw [hsz]; rfl) hone ?_)
  clear hg0
  have hb13 : w4.heap.size ≠ w.heap.size + 1 ∧ w4.heap.size ≠ w.heap.size + 2 ∧ w1.heap.size < w4.heap.size := by omega
  generalize (w4.alloc (.cells spZ 73)).setRow w4.heap.size sv = v5 at *
  have HB6 := hide (HB5.out.drew)
  have HR86 := hide (keep HR85.out (Below.refl _ v5).drew)
  have HR96 := hide (keep HR95.out (Below.refl _ v5).drew)
  have HT6 := hide (keep HT5.out (Below.refl _ v5).drew)
  have HV6 := hide (keep HV5.out (Below.refl _ v5).drew)
  have HF6 : Hid (∀ W', (∀ g, b2 ≤ g → g < w4.heap.size → W'.heap[g]? = v5.drew.heap[g]?) → Below w.heap.size w W' → SaEnd p n nm m L ys bg xs w (.returned (.tuple #[.agg sv, .agg (packOf xs m), .bool (z == 1)])) W') := fun W' h4 h0 => HF5.out W' (fun g g1 g2 => h4 g g1 g2) h0
  clear HB5 HR85 HR95 HT5 HV5 HF5
  refine wp_region_held_drew (S := fun W => W.heap[w4.heap.size]? = some (.cells sv 73 (0, 0)) ∧ W.heap[w1.heap.size]? = some (.cells (packOf xs m) 84 (0, 0))) (by kernel_rfl) ?_ (fun hHeld => ?_)
  · exact ⟨HV6.out, HT6.out⟩
  generalize v5.drew = v6 at *
  refine take_yes (i := 0) (some 33) (.agg sv) rfl rfl (by kernel_rfl) (by kernel_rfl) (by kernel_rfl) (fun _ _ _ h => h) (by rfl) ?_ (by assumption) ?_
  · intro W' hSw
    obtain ⟨hz0, hz1⟩ := hSw
    exact exec_load_row 73 _ rfl _ rfl 73 _ _ _ hz0 Try.underlying73 rfl (by rw [hsz]; exact Try.size73)
  simp only [Act.put, List.setIfInBounds_toArray, List.set_cons_zero, List.set_cons_succ]
  refine take_yes (i := 1) (some 34) (.agg (packOf xs m)) rfl rfl (by kernel_rfl) (by kernel_rfl) (by kernel_rfl) (fun _ _ _ h => h) (by rfl) ?_ (by assumption) ?_
  · intro W' hSw
    obtain ⟨hz0, hz1⟩ := hSw
    exact exec_load_row 84 _ rfl _ rfl 84 _ _ _ hz1 Try.underlying84 rfl (by rw [packOf_size]; exact Try.size84)
  simp only [Act.put, List.setIfInBounds_toArray, List.set_cons_zero, List.set_cons_succ]
  refine take_yes (i := 2) (some 35) (.int .i64 z) rfl rfl (by kernel_rfl) (by kernel_rfl) (by kernel_rfl) (fun _ _ _ h => h) (by rfl) ?_ (by assumption) ?_
  · intro W' hSw
    go_simp
  simp only [Act.put, List.setIfInBounds_toArray, List.set_cons_zero, List.set_cons_succ]
  refine take_yes (i := 3) (some 36) (.bool (z == 1)) rfl rfl (by kernel_rfl) (by kernel_rfl) (by kernel_rfl) (fun _ _ _ h => h) (by rfl) ?_ (by assumption) ?_
  · intro W' hSw
    go_simp
  simp only [Act.put, List.setIfInBounds_toArray, List.set_cons_zero, List.set_cons_succ]
  have HR97 := hide ((setRow_otherW v6 (show w.heap.size + 2 ≠ w.heap.size + 1 by omega) sv).trans HR96.out)
  have HN := hide (HF6.out _ (fun g g1 _ => (setRow_otherW _ (show g ≠ w.heap.size + 2 by omega) _).trans (setRow_otherW _ (show g ≠ w.heap.size + 1 by omega) _)) (below_setRow (below_setRow HB6.out _ (by omega) sv) (w.heap.size + 2) (by omega) (packOf xs m)))
  have h8 := HR86.out
  have h9 := HR97.out
  have hv13 := HV6.out
  have ht11 := HT6.out
  clear HR86 HR96 HV6 HT6 HF6 HB6
  refine store_next (i := 4) rfl rfl (by kernel_rfl) (by rfl) 73 _ _ rfl (w.heap.size + 1) sv rfl rfl 73 _ h8 (by rw [hsz]; exact Try.size73) (by rw [hsz]; rfl) hone ?_ (fun _ => ?_)
  · exact ⟨(setRow_otherW _ hb13.1 _).trans hv13, (setRow_otherW _ hb11.1 _).trans ht11⟩
  refine store_next (i := 5) rfl rfl (by kernel_rfl) (by rfl) 84 _ _ rfl (w.heap.size + 2) (packOf xs m) rfl rfl 84 _ h9 (by rw [packOf_size]; exact Try.size84) (by rw [packOf_size]; rfl) (packOf_one _ _) ?_ (fun _ => ?_)
  · exact ⟨(setRow_otherW _ hb13.2.1 _).trans ((setRow_otherW _ hb13.1 _).trans hv13), (setRow_otherW _ hb11.2 _).trans ((setRow_otherW _ hb11.1 _).trans ht11)⟩
  refine take_yes (i := 6) (some 10) (.bool (z == 1)) rfl rfl (by kernel_rfl) (by kernel_rfl) (by kernel_rfl) (fun _ _ _ h => h) (by rfl) ?_ (by assumption) ?_
  · intro W' hSw
    go_simp
  simp only [Act.put, List.setIfInBounds_toArray, List.set_cons_zero, List.set_cons_succ]
  refine wpAnyH_done (by kernel_rfl) ?_ _
  go_wp2_with fail
  refine bodyPost_ret (v := .tuple #[.agg sv, .agg (packOf xs m), .bool (z == 1)]) ?_ rfl HN.out
  exact sa_res Try.results62 _ _ (w.heap.size + 1) (w.heap.size + 2) _ _ _ rfl rfl rfl hsz ((setRow_otherW _ (by omega) _).trans (setRow_same h8 _)) (packOf_size _ _) (setRow_same h9 _)

end Go.Proofs.Ytedbihlpggficaa


/- CanCome of both. -/
namespace Go.Proofs.Ytedbihlpggficaa
open Go.RowKit
set_option maxRecDepth 10000

def caR (p : Int) (n : Nat) (L : List (List Int)) (ys : List Int) (bg : Int) (xs : List Int) : Bool := saOk p n L ys bg xs && decide (xs ∈ (spSea p n L ys bg).ms)

/-- How CanCome ends. -/
def CaEnd (p : Int) (n : Nat) (L : List (List Int)) (ys : List Int) (bg : Int) (xs : List Int) (w : World) (e : Ending) (w' : World) : Prop :=
  e = .returned (.tuple #[.bool (caR p n L ys bg xs), .bool (saOk p n L ys bg xs)]) ∧ Below w.heap.size w w'

theorem caEnd_no {p : Int} {n : Nat} {L : List (List Int)} {ys xs : List Int} {bg : Int} {w w' : World} (h : saOk p n L ys bg xs = false) (hb : Below w.heap.size w w') : CaEnd p n L ys bg xs w (.returned (.tuple #[.bool false, .bool false])) w' := by
  refine ⟨?_, hb⟩
  unfold caR; rw [h]; rfl

theorem caEnd_yes {p : Int} {n l : Nat} {L : List (List Int)} {ys xs : List Int} {bg : Int} {s : Sea} {w w' : World} (h : saOk p n L ys bg xs = true) (hs : SpOk p n l L ys bg s) (hb : Below w.heap.size w w') {b : Bool} (hx : decide (xs ∈ s.ms) = b) : CaEnd p n L ys bg xs w (.returned (.tuple #[.bool b, .bool true])) w' := by
  refine ⟨?_, hb⟩
  unfold caR; rw [h, hs.is, hx]; rfl

theorem saOk_parts {p : Int} {n : Nat} {L : List (List Int)} {ys xs : List Int} {bg : Int} (h : saOk p n L ys bg xs = true) : spCode p n L ys bg = 1 ∧ goodB p xs = true := by
  unfold saOk at h; rw [Bool.and_eq_true] at h; exact ⟨by simpa using h.1, h.2⟩
theorem saOk_code {p : Int} {n : Nat} {L : List (List Int)} {ys xs : List Int} {bg : Int} (h : spCode p n L ys bg ≠ 1) : saOk p n L ys bg xs = false := by unfold saOk; simp [h]
theorem saOk_good {p : Int} {n : Nat} {L : List (List Int)} {ys xs : List Int} {bg : Int} (h : goodB p xs = false) : saOk p n L ys bg xs = false := by unfold saOk; rw [h, Bool.and_false]
theorem saOk_yes {p : Int} {n : Nat} {L : List (List Int)} {ys xs : List Int} {bg : Int} (h : spCode p n L ys bg = 1) (hg : goodB p xs = true) : saOk p n L ys bg xs = true := by unfold saOk; rw [h, hg]; rfl

theorem SpOk.lens {p : Int} {n l : Nat} {L : List (List Int)} {ys : List Int} {bg : Int} {s : Sea} (h : SpOk p n l L ys bg s) : ∀ u ∈ s.ms, u.length = l := fun u hu => by
  have := (goodB_parts (h.ok.good u hu)).2.1
  have := h.hl
  omega

theorem wpList_lookQ {P : Program} {ops : Array Oper} {rest : List Oper} {op : Oper} {a : Act} {w : World} {Q : Exit → Act → World → Prop} (hgd : op.guard = none) (t : TypeId) (m x : Operand) (c : Bool) (ho : op.op = .lookup t m x c)
    (mv kv v : Value) (hm : a.eval m = mv) (hx : a.eval x = kv) (hr : (Instr.lookup t mv kv c).run P w = .ok v w)
    (h : wpList P ops Q rest (a.put op.dst v) w) : wpList P ops Q (op :: rest) a w := by
  refine wpList_plain hgd fun K hK => ?_
  have hr := exec_lookup t m x c ho mv kv v hm hx hr
  unfold Oper.wp
  rw [hr]
  exact hK _ _ h




end Go.Proofs.Ytedbihlpggficaa


/- DeadTrans of both: the transitions that no arc of the whole space is by. -/
namespace Go.Proofs.Ytedbihlpggficaa
open Go.RowKit
set_option maxRecDepth 10000

def metB (ar : List (Nat × Nat × Nat)) (t : Nat) : Bool := ar.any fun a => a.2.1 == t
def deadL (n : Nat) (ar : List (Nat × Nat × Nat)) : List Int := numsL (fun t => !metB ar t) n
def dtOk (p : Int) (n : Nat) (L : List (List Int)) (ys : List Int) (bg : Int) : Bool := decide (spCode p n L ys bg = 1)
def dtR (p : Int) (n : Nat) (L : List (List Int)) (ys : List Int) (bg : Int) : List Int := if dtOk p n L ys bg then deadL n (spSea p n L ys bg).ar else []

theorem dtOk_yes {p : Int} {n : Nat} {L : List (List Int)} {ys : List Int} {bg : Int} (h : spCode p n L ys bg = 1) : dtOk p n L ys bg = true := by unfold dtOk; simp [h]
theorem dtOk_no {p : Int} {n : Nat} {L : List (List Int)} {ys : List Int} {bg : Int} (h : spCode p n L ys bg ≠ 1) : dtOk p n L ys bg = false := by unfold dtOk; simp [h]

theorem metB_take {ar : List (Nat × Nat × Nat)} {i x y z : Nat} (h : ar[i]? = some (x, y, z)) (t : Nat) : metB (ar.take (i + 1)) t = (metB (ar.take i) t || y == t) := by
  unfold metB
  rw [List.take_add_one, h, List.any_append]
  simp

theorem arcsL_at : ∀ (ar : List (Nat × Nat × Nat)) (i x y z : Nat), ar[i]? = some (x, y, z) → (arcsL ar)[i * 3]? = some (.int .i64 (x : Int)) ∧ (arcsL ar)[i * 3 + 1]? = some (.int .i64 (y : Int)) ∧ (arcsL ar)[i * 3 + 2]? = some (.int .i64 (z : Int)) := by
  intro ar
  induction ar with
  | nil => intro i x y z h; simp at h
  | cons a r ih =>
    intro i x y z h
    have e : arcsL (a :: r) = [.int .i64 (a.1 : Int), .int .i64 (a.2.1 : Int), .int .i64 (a.2.2 : Int)] ++ arcsL r := by simp [arcsL]
    rw [e]
    cases i with
    | zero => simp at h; subst h; exact ⟨rfl, rfl, rfl⟩
    | succ i =>
      have h' : r[i]? = some (x, y, z) := by simpa using h
      obtain ⟨h1, h2, h3⟩ := ih i x y z h'
      refine ⟨?_, ?_, ?_⟩
      · rw [List.getElem?_append_right (by simp; omega)]; rw [← h1]; congr 1; simp; omega
      · rw [List.getElem?_append_right (by simp; omega)]; rw [← h2]; congr 1; simp; omega
      · rw [List.getElem?_append_right (by simp; omega)]; rw [← h3]; congr 1; simp; omega

/-- An arc in memory. -/
theorem arcs_at {w : World} {B : Nat} {aa : Option Addr} {N ac : Nat} {ar : List (Nat × Nat × Nat)} (h : w.ownsRow B 129 3 (.slice aa N ac) N (arcsL ar)) {i : Nat} (hi : i < N) {x y z : Nat} (ha : ar[i]? = some (x, y, z)) :
    ∃ g, aa = some ⟨g, 0, none⟩ ∧ w.cell? ⟨g, i * 3, none⟩ = some (.int .i64 (x : Int)) ∧ w.cell? ⟨g, i * 3 + 1, none⟩ = some (.int .i64 (y : Int)) ∧ w.cell? ⟨g, i * 3 + 2, none⟩ = some (.int .i64 (z : Int)) := by
  obtain ⟨g, cap, e⟩ : ∃ g cap, Value.slice aa N ac = .slice (some ⟨g, 0, none⟩) N cap := by
    rcases h.2 with ⟨e, _⟩ | ⟨g, cap, cur, e, _⟩
    · simp only [Value.slice.injEq] at e; omega
    · exact ⟨g, cap, e⟩
  simp only [Value.slice.injEq] at e
  obtain ⟨rfl, _, rfl⟩ := e
  obtain ⟨h1, h2, h3⟩ := arcsL_at ar i x y z ha
  refine ⟨g, rfl, ?_, ?_, ?_⟩
  · rw [h.cellAt (i * 3) (by omega), h1]
  · rw [h.cellAt (i * 3 + 1) (by omega), h2]
  · rw [h.cellAt (i * 3 + 2) (by omega), h3]

theorem dtend_yesS {p : Int} {n l : Nat} {L : List (List Int)} {ys : List Int} {bg : Int} {s : Sea} {w w' : World} {v : Value} {m B : Nat} (h : spCode p n L ys bg = 1) (hs : SpOk p n l L ys bg s) (ho : w'.ownsRow B 3 1 v m ((numsL (fun t => !metB s.ar t) n).map (Value.int .i64))) (hb : Below w.heap.size w w') : WEnd (dtOk p n L ys bg) (dtR p n L ys bg) w (.returned (.tuple #[v, .bool true])) w' := by
  obtain ⟨a, c, rfl, hr⟩ := own_row ho
  refine ⟨a, m, c, by rw [dtOk_yes h], ?_, hb⟩
  unfold dtR; rw [dtOk_yes h, if_pos rfl, hs.is]; exact hr

theorem dtend_yesI {p : Int} {n l : Nat} {L : List (List Int)} {ys : List Int} {bg : Int} {s : Sea} {w w' : World} {v : Value} {m B : Nat} (h : spCode p n L ys bg = 1) (hs : SpOk p n l L ys bg s) (ho : w'.ownsRow B 3 1 v m ((numsL (fun t => !metB s.ar t) n).map (Value.int .i64))) (hB : w.heap.size ≤ B) (hb : Below w.heap.size w w') : OEnd (dtOk p n L ys bg) (dtR p n L ys bg) w (.returned (.tuple #[v, .bool true])) w' := by
  obtain ⟨a, b, c, rfl, hb', hr⟩ := own_ob ho
  refine ⟨a, b, m, c, by rw [dtOk_yes h], ?_, Nat.le_trans hB hb', hb⟩
  unfold dtR; rw [dtOk_yes h, if_pos rfl, hs.is]; exact hr

theorem dtend_noS {p : Int} {n : Nat} {L : List (List Int)} {ys : List Int} {bg : Int} {w w' : World} (h : spCode p n L ys bg ≠ 1) (hb : Below w.heap.size w w') : WEnd (dtOk p n L ys bg) (dtR p n L ys bg) w (.returned (.tuple #[.slice none 0 0, .bool false])) w' := by
  refine ⟨none, 0, 0, by rw [dtOk_no h], ⟨?_, .inl rfl⟩, hb⟩
  unfold dtR; rw [dtOk_no h]; rfl

theorem dtend_noI {p : Int} {n : Nat} {L : List (List Int)} {ys : List Int} {bg : Int} {w w' : World} (h : spCode p n L ys bg ≠ 1) (hb : Below w.heap.size w w') : OEnd (dtOk p n L ys bg) (dtR p n L ys bg) w (.returned (.tuple #[.slice none 0 0, .bool false])) w' := by
  refine ⟨none, w.heap.size, 0, 0, by rw [dtOk_no h], ⟨?_, .inl rfl⟩, Nat.le_refl _, hb⟩
  unfold dtR; rw [dtOk_no h]; rfl

theorem arc_get {ar : List (Nat × Nat × Nat)} {i : Nat} (h : i < ar.length) : ∃ x y z, ar[i]? = some (x, y, z) ∧ (x, y, z) ∈ ar := ⟨_, _, _, List.getElem?_eq_getElem h, List.getElem_mem h⟩




end Go.Proofs.Ytedbihlpggficaa


/- DeadTrans of the program. -/
namespace Go.Proofs.Ytedbihlpggficaa
open Go.RowKit
set_option maxRecDepth 10000

theorem Try.info4 : (Try.prog.info? 4).map (fun i => (i.zero, i.size, i.bytes)) = some (some (.bool false), 1, 1) := by kernel_rfl

/-- Block F holds n truths. -/
def BRow (w : World) (F n : Nat) (f : Nat → Bool) : Prop := ∃ C, w.heap[F]? = some (.cells C 4 (0, 0)) ∧ C.size = n ∧ ∀ j, j < n → C[j]? = some (.bool (f j))

theorem BRow.grow {w w' : World} {F n : Nat} {f : Nat → Bool} (h : BRow w F n f) (hb : Below w.heap.size w w') : BRow w' F n f := by
  obtain ⟨C, h1, h2⟩ := h; exact ⟨C, keep h1 hb, h2⟩

theorem BRow.made (w : World) (n : Nat) : BRow (w.alloc (.cells (madeCells #[.bool false] n) 4)) w.heap.size n (fun _ => false) := by
  refine ⟨_, heap_alloc_new _ _, by rw [size_madeCells], fun j hj => ?_⟩
  unfold madeCells
  have e : (j % (#[Value.bool false] : Array Value).size) = 0 := Nat.mod_one j
  rw [Array.getElem?_map, Array.getElem?_range, if_pos hj, Option.map_some, e]
  rfl

theorem BRow.cell {w : World} {F n : Nat} {f : Nat → Bool} (h : BRow w F n f) {j : Nat} (hj : j < n) : w.cell? ⟨F, j, none⟩ = some (.bool (f j)) ∧ w.frozen? ⟨F, j, none⟩ = false := by
  obtain ⟨C, h1, h2, h3⟩ := h
  exact ⟨(cell_of_row w F j C _ _ h1).trans (h3 j hj), frozen_of_row w F j C _ h1⟩

theorem bzero {w : World} {F n : Nat} {ar : List (Nat × Nat × Nat)} (h : BRow w F n (fun _ => false)) : BRow w F n (metB (ar.take 0)) := by
  have e : metB (ar.take 0) = fun _ => false := by funext t; simp [metB]
  rw [e]; exact h

theorem BRow.set {w : World} {F n : Nat} {f f' : Nat → Bool} (h : BRow w F n f) {y : Nat} (hy : y < n) (hf : ∀ t, f' t = (f t || y == t)) : BRow (w.setCell ⟨F, y, none⟩ (.bool true)) F n f' := by
  obtain ⟨C, h1, h2, h3⟩ := h
  refine ⟨C.setIfInBounds y (.bool true), heap_setCell_same _ _ _ _ _ _ h1, by simp [h2], fun j hj => ?_⟩
  rw [Array.getElem?_setIfInBounds, hf j]
  by_cases e : y = j
  · subst e; rw [if_pos rfl, if_pos (by omega)]; simp
  · rw [if_neg e, h3 j hj]; simp [e]



end Go.Proofs.Ytedbihlpggficaa


/- The specification's l4To: which marks can come to one of some. -/
namespace Go.Proofs.Ytedbihlpggficaa
open Go.RowKit
set_option maxRecDepth 10000

/-- How many truths of block F are told, as memory has it. -/
def cntW4 (w : World) (F N : Nat) : Nat := cntT (fun i => match w.cell? ⟨F, i, none⟩ with | some (.bool b) => b | _ => false) N

theorem cntT_congr {f g : Nat → Bool} : ∀ {N : Nat}, (∀ i, i < N → f i = g i) → cntT f N = cntT g N := by
  intro N
  induction N with
  | zero => intro _; rfl
  | succ N ih => intro h; rw [cntT_succ, cntT_succ, ih fun i hi => h i (by omega), h N (by omega)]

theorem BRow.cnt {w : World} {F N : Nat} {f : Nat → Bool} (h : BRow w F N f) : cntW4 w F N = cntT f N := by
  unfold cntW4
  exact cntT_congr fun i hi => by rw [(h.cell hi).1]

theorem mem_take_upd {cs : List Nat} {k x : Nat} (hx : cs[k]? = some x) (t : Nat) : decide (t ∈ cs.take (k + 1)) = (decide (t ∈ cs.take k) || x == t) := by
  rw [List.take_add_one, hx]
  by_cases h2 : x = t
  · subst h2; simp
  · have h3 : ¬ t = x := fun e => h2 e.symm
    by_cases h1 : t ∈ cs.take k <;> simp [h1, h2, h3]

/-- What the pass over the arcs keeps. -/
structure ToIn (ar : List (Nat × Nat × Nat)) (G : Nat → Prop) (N k : Nat) (f0 f : Nat → Bool) (b : Bool) : Prop where
  good : ∀ i, G i → f i = true
  can : ∀ i, f i = true → CanTo ar G i
  no : b = false → f = f0 ∧ ∀ a ∈ ar.take k, f a.2.2 = true → f a.1 = true
  yes : b = true → cntT f0 N < cntT f N
  le : cntT f0 N ≤ cntT f N

theorem ToIn.skip {ar : List (Nat × Nat × Nat)} {G : Nat → Prop} {N k : Nat} {f0 f : Nat → Bool} {b : Bool} (h : ToIn ar G N k f0 f b) {x y z : Nat} (ha : ar[k]? = some (x, y, z)) (hs : f z = true → f x = true) : ToIn ar G N (k + 1) f0 f b := by
  refine ⟨h.good, h.can, fun e => ⟨(h.no e).1, fun a hm hz => ?_⟩, h.yes, h.le⟩
  rw [List.take_add_one, ha] at hm
  rcases List.mem_append.1 hm with h1 | h1
  · exact (h.no e).2 a h1 hz
  · simp at h1; rw [h1] at hz ⊢; exact hs hz

theorem ToIn.put {ar : List (Nat × Nat × Nat)} {G : Nat → Prop} {N k : Nat} {f0 f : Nat → Bool} {b : Bool} (h : ToIn ar G N k f0 f b) {x y z : Nat} (ha : ar[k]? = some (x, y, z)) (hz : f z = true) (hx : f x = false) (hN : x < N) : ToIn ar G N (k + 1) f0 (updT f x) true := by
  have hc := cntT_upd hx N
  rw [if_pos hN] at hc
  refine ⟨fun i hi => updT_old (h.good i hi), fun i hi => ?_, fun e => by simp at e, fun _ => by have := h.le; omega, by have := h.le; omega⟩
  rcases updT_of hi with e | e
  · exact h.can i e
  · rw [e]; exact .step (List.mem_of_getElem? ha) (h.can z hz)

set_option maxHeartbeats 2000000 in
theorem l4To_any (ma aa ca : Option Addr) (N mc ac nc cc B : Nat) (cs : List Nat) (ar : List (Nat × Nat × Nat)) (w : World) (h : w.ownsRow B 129 3 (.slice aa ar.length ac) ar.length (arcsL ar)) (hN : N ≤ 400) (hlen : ar.length ≤ 9600)
    (har : ∀ a ∈ ar, a.1 < N ∧ a.2.2 < N) (rc : Row w ca nc (cs.map fun (x : Nat) => (x : Int))) (hnc : nc ≤ 1048576) (hcs : ∀ x ∈ cs, x < N) :
    Calls Try.prog 100 #[.agg #[.slice ma N mc, .slice aa ar.length ac], .slice ca nc cc] w fun e w' => ∃ F f, e = .returned (.slice (some ⟨F, 0, none⟩) N N) ∧ w.heap.size ≤ F ∧ BRow w' F N f ∧ (∀ i, f i = true ↔ CanTo ar (fun x => x ∈ cs) i) ∧ Below w.heap.size w w' := by
  have hmk := run_make_many (P := Try.prog) 148 4 (.bool false) 1 1 Try.underlying148 Try.info4 .i64 .i64 N (by omega) (by omega)
  obtain ⟨N2, hN2⟩ : ∃ n, Hid (ar.length = n) := ⟨_, rfl⟩
  have HAR := hide har
  have HCS := hide hcs
  rw [hN2.out] at h hlen ⊢
  have hAl := below_al w (.cells #[.slice ma N mc, .slice aa N2 ac] 30)
  have HS0 := hide (heap_alloc_new w (.cells #[.slice ma N mc, .slice aa N2 ac] 30))
  have HO0 := hide (ownsRow_kept h fun g hg => hAl.block g (own_lt h hg).2)
  have HC0 := hide (rc.below hAl)
  have HB0 := hide hAl
  have hcl : cs.length = nc := by have := rc.1; simpa using this
  clear h rc hAl har hcs
  go_enter Try.func100, Try.ntmps100
  go_upto_region 1 with fail
  generalize w.alloc (.cells #[.slice ma N mc, .slice aa N2 ac] 30) = v at *
  obtain ⟨hc0, hc1⟩ := cells2 HS0.out
  go_upto_region 2 with fail
  clear hmk hc0 hc1
  have HBR := hide (BRow.made v N)
  have HB1 := hide (below_al v (.cells (madeCells #[.bool false] N) 4))
  generalize v.alloc (.cells (madeCells #[.bool false] N) 4) = v1 at *
  have hvs := HB0.out.size
  go_wp2_with fail
  go_loopw [17] (fun i wr => ∃ k : Nat, k ≤ nc ∧ i = .int .i64 k ∧ Hid (Below v.heap.size v wr ∧ BRow wr v.heap.size N (fun t => decide (t ∈ cs.take k)))) (fun i _ => nc - (intOf i).toNat)
  case atStart => exact ⟨0, Nat.zero_le _, rfl, HB1.out, by simpa using HBR.out⟩
  case round =>
    obtain ⟨k, hk, rfl, hbr⟩ := hrel
    by_cases hlt : k < nc
    · obtain ⟨x, hx⟩ : ∃ x, cs[k]? = some x := ⟨_, List.getElem?_eq_getElem (by omega)⟩
      have hxN := HCS.out x (List.mem_of_getElem? hx)
      obtain ⟨b1, o1, y, rfl, hb1, hy1, H1⟩ := (HC0.out.below hbr.out.1).at hlt
      have hyx : y = (x : Int) := by
        have := H1.out
        rw [List.getElem?_map, hx] at this
        simpa using this.symm
      subst hyx
      have HR := hide (hbr.out.2.set hxN (mem_take_upd hx))
      have HB := hide (hbr.out.1.setCell (p := ⟨v.heap.size, x, none⟩) (Nat.le_refl _) (.bool true))
      obtain ⟨hr0, hr1⟩ := hbr.out.2.cell hxN
      have hxi : (x : Int) < (N : Int) := by omega
      have hx0 : (0 : Int) ≤ (x : Int) := by omega
      clear H1 hbr hx
      go_wp2_with fail
      go_roundw
      case rel => exact ⟨k + 1, by omega, by go_num, HB.out, HR.out⟩
      case measure => simp [intOf]; omega
    · have hk' : k = nc := by omega
      have HBB : Hid (BRow wr v.heap.size N (fun t => decide (t ∈ cs))) := by have := hbr.out.2; rwa [hk', ← hcl, List.take_length] at this
      have HBW := hide hbr.out.1
      clear hbr hk
      subst hk'
      have hlt' : ¬ (k : Int) < (k : Int) := by omega
      go_wp2_with fail
      go_loopw [8] (fun fl wq => ∃ b f, fl = .bool b ∧ Hid (Below v.heap.size v wq ∧ BRow wq v.heap.size N f) ∧ Hid (ToIn ar (fun x => x ∈ cs) N ar.length f f false ∨ (b = true ∧ (∀ i, i ∈ cs → f i = true) ∧ ∀ i, f i = true → CanTo ar (fun x => x ∈ cs) i))) (fun fl wq => 2 * (N - cntW4 wq v.heap.size N) + (match fl with | .bool true => 1 | _ => 0))
      case atStart => exact ⟨true, _, rfl, ⟨HBW.out, HBB.out⟩, .inr ⟨rfl, fun i hi => by simpa using hi, fun i hi => .at_ (by simpa using hi)⟩⟩
      case round =>
        obtain ⟨b, f, rfl, hbf, hin⟩ := hrel
        have HQ := hide (show (∀ i, i ∈ cs → f i = true) ∧ ∀ i, f i = true → CanTo ar (fun x => x ∈ cs) i by
          rcases hin.out with h | h
          · exact ⟨h.good, h.can⟩
          · exact h.2)
        cases b
        · have HF : Hid (∀ i, f i = true ↔ CanTo ar (fun x => x ∈ cs) i) := by
            rcases hin.out with h | h
            · refine canTo_iff HQ.out.1 HQ.out.2 fun i t j ha hj => ?_
              exact (h.no rfl).2 (i, t, j) (by rw [List.take_length]; exact ha) hj
            · simp at h
          have HR := hide hbf.out.2
          have HBE := hide (HB0.out.trans (hbf.out.1.mono hvs))
          clear hbf hin HQ
          go_wp2_with fail
          go_ret
          exact ⟨_, f, rfl, hvs, HR.out, HF.out, HBE.out⟩
        · have HBF := hide hbf.out
          have hcw := hbf.out.2.cnt
          obtain ⟨wo, hwo⟩ : ∃ w0, w0 = wr := ⟨_, rfl⟩
          obtain ⟨m0, hm0⟩ : ∃ m, Hid (cntT f N = m) := ⟨_, rfl⟩
          rw [hm0.out] at hcw
          have hmN : m0 ≤ N := by have := cntT_le f N; have := hm0.out; omega
          clear hin hbf
          obtain ⟨hs0, hs1⟩ := cells2 ((HBF.out.1.block _ (row_lt HS0.out)).trans HS0.out)
          go_wp2_with fail
          clear hs0 hs1
          go_loopw [8, 29] (fun fl i wq => ∃ (j : Nat) (b : Bool) (g : Nat → Bool), j ≤ N2 ∧ i = .int .i64 j ∧ fl = .bool b ∧ Hid (Below v.heap.size v wq ∧ BRow wq v.heap.size N g) ∧ Hid (ToIn ar (fun x => x ∈ cs) N j f g b)) (fun _ i _ => N2 - (intOf i).toNat)
          case atStart => exact ⟨0, false, f, Nat.zero_le _, rfl, rfl, HBF.out, ⟨HQ.out.1, HQ.out.2, fun _ => ⟨rfl, fun a ha => by simp at ha⟩, fun e => by simp at e, Nat.le_refl _⟩⟩
          case round =>
            obtain ⟨j, b, g, hj, rfl, rfl, hbg, hto⟩ := hrel
            by_cases hjN : j < N2
            rotate_left
            · have hj' : j = N2 := by omega
              have hcg := hbg.out.2.cnt
              have HX : Hid (ToIn ar (fun x => x ∈ cs) N ar.length g g false ∨ (b = true ∧ (∀ i, i ∈ cs → g i = true) ∧ ∀ i, g i = true → CanTo ar (fun x => x ∈ cs) i)) := by
                cases b
                · refine .inl ⟨hto.out.good, hto.out.can, fun _ => ⟨rfl, ?_⟩, fun e => by simp at e, Nat.le_refl _⟩
                  have := (hto.out.no rfl).2
                  rwa [hj', ← hN2.out] at this
                · exact .inr ⟨rfl, hto.out.good, hto.out.can⟩
              have hms : 2 * (N - cntT g N) + (if b then 1 else 0) < 2 * (N - m0) + 1 := by
                have h1 := hto.out.le
                have h2 := cntT_le g N
                have h3 := hm0.out
                cases b
                · simp; omega
                · have := hto.out.yes rfl; simp; omega
              rw [← hcg] at hms
              clear hto hj hcg hm0
              subst hj'
              have hjj : ¬ (j : Int) < (j : Int) := by omega
              go_wp2_with fail
              go_roundw
              case rel => exact ⟨b, g, rfl, hbg, HX⟩
              case measure => cases b <;> simp_all
            obtain ⟨x, y, z, hxy, hmem⟩ := arc_get (show j < ar.length by rw [hN2.out]; exact hjN)
            obtain ⟨hxN, hzN⟩ : x < N ∧ z < N := HAR.out _ hmem
            obtain ⟨ga, hag, q0, q1, q2⟩ := arcs_at (ownsRow_kept HO0.out fun g' hg' => hbg.out.1.block g' (own_lt HO0.out hg').2) hjN hxy
            have hB2 := fun C => below_al wr (.cells C 129)
            have HBG := hide (fun C => And.intro (hbg.out.1.trans ((hB2 C).mono hbg.out.1.size)) (hbg.out.2.grow (hB2 C)))
            obtain ⟨hz0, hz1⟩ := (HBG.out #[.int .i64 (x : Int), .int .i64 (y : Int), .int .i64 (z : Int)]).2.cell hzN
            obtain ⟨hx0, hx1⟩ := (HBG.out #[.int .i64 (x : Int), .int .i64 (y : Int), .int .i64 (z : Int)]).2.cell hxN
            have hji : (j : Int) < (N2 : Int) := by omega
            have hj9 : (j : Int) ≤ 9600 := by omega
            have hxi : (x : Int) < (N : Int) := by omega
            have hzi : (z : Int) < (N : Int) := by omega
            have hxp : (0 : Int) ≤ (x : Int) := by omega
            have hzp : (0 : Int) ≤ (z : Int) := by omega
            subst hag
            cases hgz : g z
            · have HT := hide (hto.out.skip hxy (fun e => by rw [hgz] at e; cases e))
              rw [hgz] at hz0
              clear hto hgz hbg hB2 hxy hmem
              go_wp2_with fail
              go_roundw
              case rel => exact ⟨j + 1, b, g, by omega, by go_num, rfl, HBG.out _, HT.out⟩
              case measure => simp [intOf]; omega
            · rw [hgz] at hz0
              cases hgx : g x
              · have HT := hide (hto.out.put hxy hgz hgx hxN)
                have HR := hide (fun C => ((HBG.out C).2.set (f' := updT g x) hxN (fun t => rfl)))
                have HB2 := hide (fun C vv => ((HBG.out C).1).setCell (p := ⟨v.heap.size, x, none⟩) (Nat.le_refl _) vv)
                rw [hgx] at hx0
                clear hto hgz hgx hbg hB2 hxy hmem HBG
                go_wp2_with fail
                go_roundw
                case rel => exact ⟨j + 1, true, updT g x, by omega, by go_num, rfl, ⟨HB2.out _ _, HR.out _⟩, HT.out⟩
                case measure => simp [intOf]; omega
              · have HT := hide (hto.out.skip hxy (fun _ => hgx))
                rw [hgx] at hx0
                clear hto hgz hgx hbg hB2 hxy hmem
                go_wp2_with fail
                go_roundw
                case rel => exact ⟨j + 1, b, g, by omega, by go_num, rfl, HBG.out _, HT.out⟩
                case measure => simp [intOf]; omega
end Go.Proofs.Ytedbihlpggficaa


/- The specification's l4Everywhere and IsHome. -/
namespace Go.Proofs.Ytedbihlpggficaa
open Go.RowKit
set_option maxRecDepth 10000

/-- How l4Everywhere ends. -/
def EvEnd (ar : List (Nat × Nat × Nat)) (N : Nat) (cs : List Nat) (w : World) (e : Ending) (w' : World) : Prop :=
  ∃ b, e = .returned (.bool b) ∧ (b = true ↔ ∀ i, i < N → CanTo ar (fun x => x ∈ cs) i) ∧ Below w.heap.size w w'

set_option maxHeartbeats 1000000 in
theorem everywhere_any (ma aa ca : Option Addr) (N mc ac nc cc B : Nat) (cs : List Nat) (ar : List (Nat × Nat × Nat)) (w : World) (h : w.ownsRow B 129 3 (.slice aa ar.length ac) ar.length (arcsL ar)) (hN : N ≤ 400) (hlen : ar.length ≤ 9600)
    (har : ∀ a ∈ ar, a.1 < N ∧ a.2.2 < N) (rc : Row w ca nc (cs.map fun (x : Nat) => (x : Int))) (hnc : nc ≤ 1048576) (hcs : ∀ x ∈ cs, x < N) :
    Calls Try.prog 65 #[.agg #[.slice ma N mc, .slice aa ar.length ac], .slice ca nc cc] w fun e w' => EvEnd ar N cs w e w' := by
  have hAl := below_al w (.cells #[.slice ma N mc, .slice aa ar.length ac] 30)
  have HT := hide (l4To_any ma aa ca N mc ac nc cc B cs ar _ (ownsRow_kept h fun g hg => hAl.block g (own_lt h hg).2) hN hlen har (rc.below hAl) hnc hcs)
  have HB0 := hide hAl
  clear h har rc hcs hAl
  generalize ar.length = N2 at *
  go_enter Try.func65, Try.ntmps65
  go_wp2_with fail
  refine HT.out.mono ?_
  rintro e w1 ⟨F, f, rfl, hF, hr, hiff, hb⟩
  have HB1 := hide (HB0.out.trans (hb.mono HB0.out.size))
  have HR := hide hr
  have HI := hide hiff
  clear HT HB0 hr hiff hb
  go_wp2_with fail
  go_loop [11] (fun i => ∃ k : Nat, k ≤ N ∧ i = .int .i64 k ∧ Hid (∀ i, i < k → f i = true)) (fun i => N - (intOf i).toNat)
  case atStart => exact ⟨0, Nat.zero_le _, rfl, fun i hi => absurd hi (by omega)⟩
  case round =>
    obtain ⟨k, hk, rfl, hu⟩ := hrel
    by_cases hlt : k < N
    · obtain ⟨hc, _⟩ := HR.out.cell hlt
      have hkN : (k : Int) < (N : Int) := by omega
      cases hf : f k
      · rw [hf] at hc
        have HE : Hid (false = true ↔ ∀ i, i < N → CanTo ar (fun x => x ∈ cs) i) := ⟨fun e => (by cases e), fun e => (by have := (HI.out k).2 (e k hlt); rw [hf] at this; exact this)⟩
        clear hf hu
        go_wp2_with fail
        go_ret
        exact ⟨false, rfl, HE.out, HB1.out⟩
      · rw [hf] at hc
        have HU : Hid (∀ i, i < k + 1 → f i = true) := fun i hi => by
          by_cases e : i = k
          · rw [e]; exact hf
          · exact hu.out i (by omega)
        clear hf hu
        go_wp2_with fail
        go_round
        case rel => exact ⟨k + 1, by omega, by go_num, HU⟩
        case measure => simp [intOf]; omega
    · have HE : Hid (∀ i, i < N → CanTo ar (fun x => x ∈ cs) i) := fun i hi => (HI.out i).1 (hu.out i (by omega))
      have hk' : k = N := by omega
      clear hu
      subst hk'
      go_wp2_with fail
      go_ret
      exact ⟨true, rfl, ⟨fun _ => HE.out, fun _ => rfl⟩, HB1.out⟩

/-- From each mark one can come to xs. -/
def HomeP (s : Sea) (xs : List Int) : Prop := ∀ i, i < s.ms.length → CanTo s.ar (fun x => x < s.ms.length ∧ s.ms.getD x [] = xs) i

open Classical in
/-- What IsHome tells. -/
noncomputable def ihR (p : Int) (n : Nat) (L : List (List Int)) (ys : List Int) (bg : Int) (xs : List Int) : Bool := saOk p n L ys bg xs && decide (HomeP (spSea p n L ys bg) xs)

/-- How IsHome ends. -/
def IhEnd (p : Int) (n : Nat) (L : List (List Int)) (ys : List Int) (bg : Int) (xs : List Int) (w : World) (e : Ending) (w' : World) : Prop :=
  e = .returned (.tuple #[.bool (ihR p n L ys bg xs), .bool (saOk p n L ys bg xs)]) ∧ Below w.heap.size w w'

theorem ihEnd_no {p : Int} {n : Nat} {L : List (List Int)} {ys xs : List Int} {bg : Int} {w w' : World} (h : saOk p n L ys bg xs = false) (hb : Below w.heap.size w w') : IhEnd p n L ys bg xs w (.returned (.tuple #[.bool false, .bool false])) w' := by
  refine ⟨?_, hb⟩
  unfold ihR; rw [h]; rfl

theorem ihEnd_yes {p : Int} {n l : Nat} {L : List (List Int)} {ys xs : List Int} {bg : Int} {s : Sea} {w w' : World} {b : Bool} (h : saOk p n L ys bg xs = true) (hs : SpOk p n l L ys bg s) (hx : b = true ↔ HomeP s xs) (hb : Below w.heap.size w w') : IhEnd p n L ys bg xs w (.returned (.tuple #[.bool b, .bool true])) w' := by
  refine ⟨?_, hb⟩
  unfold ihR
  rw [h, hs.is]
  have e : (true && @decide (HomeP s xs) (Classical.propDecidable _)) = b := by
    cases b
    · simp only [Bool.true_and, decide_eq_false_iff_not]; exact fun e => by have := hx.2 e; cases this
    · simp only [Bool.true_and, decide_eq_true_eq]; exact hx.1 rfl
  rw [e]

theorem CanTo.congr {ar : List (Nat × Nat × Nat)} {G G' : Nat → Prop} (h : ∀ i, G i ↔ G' i) {i : Nat} : CanTo ar G i ↔ CanTo ar G' i :=
  ⟨CanTo.least (S := CanTo ar G') (fun i hi => .at_ ((h i).1 hi)) fun _ _ _ ha hj => .step ha hj, CanTo.least (S := CanTo ar G) (fun i hi => .at_ ((h i).2 hi)) fun _ _ _ ha hj => .step ha hj⟩

theorem at_idx {s : Sea} {p : Int} {n B : Nat} (hs : SeaOk p n B s) {xs : List Int} (hx : xs ∈ s.ms) (i : Nat) : i ∈ [s.ms.idxOf xs] ↔ (i < s.ms.length ∧ s.ms.getD i [] = xs) := by
  have hlt := List.idxOf_lt_length_of_mem hx
  rw [List.mem_singleton]
  constructor
  · rintro rfl
    refine ⟨hlt, ?_⟩
    rw [List.getD_eq_getElem?_getD, List.getElem?_eq_getElem hlt]
    exact List.getElem_idxOf hlt
  · rintro ⟨h1, h2⟩
    rw [← h2]
    exact (idxOf_at hs.nodup h1).symm

theorem no_idx {s : Sea} {xs : List Int} (hx : xs ∉ s.ms) (i : Nat) : i ∈ ([] : List Nat) ↔ (i < s.ms.length ∧ s.ms.getD i [] = xs) := by
  constructor
  · intro h; cases h
  · rintro ⟨h1, h2⟩
    exact absurd (h2 ▸ mem_at h1) hx

theorem arcs_lt {p : Int} {n l : Nat} {L : List (List Int)} {ys : List Int} {bg : Int} {s : Sea} (hs : SpOk p n l L ys bg s) : ∀ a ∈ s.ar, a.1 < s.ms.length ∧ a.2.2 < s.ms.length := fun a ha => ⟨(hs.ok.arc a ha).1, (hs.ok.arc a ha).2.2⟩

set_option maxHeartbeats 2000000 in
theorem homeS_any (p : Int) (a am ax : Option Addr) (n c nm cm nx cx : Nat) (L : List (List Int)) (ys xs : List Int) (bg : Int) (w : World) (h : Lists w a (3 * n) L) (rm : Row w am nm ys) (rx : Row w ax nx xs) (hs : sizeN n L ≤ 1048576) (hnm : nm ≤ 1048576) (hnx : nx ≤ 1048576) :
    Calls Try.prog 33 #[.agg #[.int .i64 p, .slice a n c], .slice am nm cm, .int .i64 bg, .slice ax nx cx] w fun e w' => IhEnd p n L ys bg xs w e w' := by
  have hAl := below_al w (.cells #[.int .i64 p, .slice a n c] 35)
  have HN0 := hide (heap_alloc_new w (.cells #[.int .i64 p, .slice a n c] 35))
  have HX := hide (all_any4 p a am n c nm cm L ys bg _ (h.below hAl) (rm.below hAl) hs hnm)
  have HX0 := hide (rx.below hAl)
  have HB0 := hide hAl
  clear h rm rx hAl
  go_enter Try.func33, Try.ntmps33
  go_wp2_with fail
  generalize w.alloc (.cells #[.int .i64 p, .slice a n c] 35) = v0 at *
  refine HX.out.mono ?_
  rintro e w1 ⟨hb1, hxx⟩
  have HN1 := hide (keep HN0.out hb1)
  have HX1 := hide (HX0.out.below hb1)
  have HB1 := hide (HB0.out.trans (hb1.mono HB0.out.size))
  clear hb1 HN0 HB0 HX HX0
  rcases hxx with ⟨hcode, s, ma, mc, aa, ac, hok, rfl, hmr, har⟩ | ⟨hcode, rfl⟩
  rotate_left
  · have HN := hide (ihEnd_no (w := w) (saOk_code (xs := xs) hcode) (HB1.out.trans ((below_al w1 (.cells #[.slice none 0 0, .slice none 0 0] 30)).mono HB1.out.size)))
    clear hcode
    go_wp2_with fail
    go_ret2
    exact HN.out
  have hA3 := below_al w1 (.cells #[.slice ma s.ms.length mc, .slice aa s.ar.length ac] 30)
  have HB3 := hide (HB1.out.trans (hA3.mono HB1.out.size))
  have HN3 := hide (keep HN1.out hA3)
  have HX3 := hide (HX1.out.below hA3)
  have HG := hide (goodS_any p ax nx cx xs _ HX3.out hnx)
  obtain ⟨hc0, hc1⟩ := cells2 HN3.out
  have hl16 := hok.l16
  have HM3 := hide ((hmr.go hA3).lists (show nm ≤ maxLen by unfold maxLen; omega))
  have HA3 := hide (ownsRow_kept har fun g hg => hA3.block g (own_lt har hg).2)
  have HS3 := hide (heap_alloc_new w1 (.cells #[.slice ma s.ms.length mc, .slice aa s.ar.length ac] 30))
  have hmx : s.ms.length ≤ 1048576 := by have := hok.m4; omega
  have hm4 := hok.m4
  have hlen := hok.len
  have HFI := hide (find_any ma ax s.ms.length mc nx cx s.ms xs _ HM3.out HX3.out hmx hnx)
  clear hA3 hmr har HB1 HN1 HX1
  by_cases hq : goodB p xs = true
  rotate_left
  · have hq' : goodB p xs = false := by simpa using hq
    have HN := hide (ihEnd_no (w := w) (saOk_good (n := n) (L := L) (ys := ys) (bg := bg) hq') HB3.out)
    rw [hq'] at HG
    clear hq HFI
    go_wp2_with (go_at_call 53; refine HG.out.mono ?_; rintro e w' ⟨rfl, rfl⟩)
    go_ret2
    exact HN.out
  rw [hq] at HG
  have HOK := hide hok
  have hso := saOk_yes hcode hq
  clear hcode hok
  obtain ⟨hs0, hs1⟩ := cells2 HS3.out
  by_cases hin : xs ∈ s.ms
  · have HN := hide (fun W b hx (hW : Below w.heap.size w W) => ihEnd_yes (w := w) (w' := W) (b := b) hso HOK.out hx hW)
    have HIX := hide (fun i => at_idx (xs := xs) HOK.out.ok hin i)
    have hixl : s.ms.idxOf xs < s.ms.length := List.idxOf_lt_length_of_mem hin
    unfold findL at HFI
    rw [if_pos hin] at HFI
    have hpos : (0 : Int) ≤ (s.ms.idxOf xs : Int) := by omega
    clear hin hso
    generalize s.ms.idxOf xs = ix at *
    go_wp2_with (go_at_call 53; refine HG.out.mono ?_; rintro e w' ⟨rfl, rfl⟩)
    generalize w1.alloc (.cells #[.slice ma s.ms.length mc, .slice aa s.ar.length ac] 30) = v3 at *
    refine HFI.out.mono ?_
    rintro e w2 ⟨rfl, q, rfl⟩
    have hbq := below_drewN' v3 q
    have HB4 := hide (HB3.out.trans (hbq.mono HB3.out.size))
    have HS4 := hide (keep HS3.out hbq)
    have HA4 := hide (ownsRow_kept HA3.out fun g hg => hbq.block g (own_lt HA3.out hg).2)
    generalize v3.drewN q = v4 at *
    clear HG HFI HB3 HS3 HN3 HX3 HM3 HA3 hc0 hc1 hs0 hs1 hbq
    obtain ⟨i0, hi, hz0, hz1, hz2⟩ := info_split Try.info3
    have hA5 := below_al v4 (.cells #[.int .i64 (ix : Int)] 3)
    have HO5 := hide ((World.ownsRow_nil v4 v4.heap.size 3 1).alloc (.cells #[.int .i64 (ix : Int)] 3))
    have HB5 := hide (HB4.out.trans (hA5.mono HB4.out.size))
    have HCE : Hid (∀ j u, ([.int .i64 (ix : Int)] : List Value)[j]? = some u → (v4.alloc (.cells #[.int .i64 (ix : Int)] 3)).cell? ((⟨v4.heap.size, 0, none⟩ : Addr).add j) = some u) := one_cell v4 _
    have H1c : Hid (∀ u ∈ ([.int .i64 (ix : Int)] : List Value), u.oneCell' = true) := fun u hu => by simp at hu; subst hu; rfl
    have HXb := hide (show 0 + 1 ≤ maxLen by unfold maxLen; omega)
    have HYb := hide (show (0 + 1) * 8 ≤ 140737488355328 by omega)
    have HZb := hide hA5.size
    have HA5 := hide hA5
    go_upto_region 8 with (refine wpList_append_own _ rfl (.tmp 36) (.tmp 38) 25 rfl v4.heap.size 3 i0 (.int .i64 0) 1 8 Try.underlying25 hi hz0 hz1 hz2 rfl (by decide) (.slice none 0 0) 0 _ rfl HO5.out ⟨v4.heap.size, 0, none⟩ 1 1 [.int .i64 (ix : Int)] rfl rfl HCE.out H1c.out HXb.out HYb.out HZb.out ?_; intro v' W' r1 r2 r3)
    have hr1 := r1
    rw [List.nil_append] at hr1
    obtain ⟨oa, oc, rfl, hrow⟩ := own_row (l := [(ix : Int)]) (by simpa using hr1)
    have hbw := own_below HO5.out r2 HA5.out HZb.out (Nat.le_refl _)
    have HB6 := hide (HB4.out.trans (hbw.mono HB4.out.size))
    have HS6 := hide (keep HS4.out hbw)
    have HEV := hide (everywhere_any ma aa oa s.ms.length mc ac (0 + 1) oc _ [ix] s.ar W' (ownsRow_kept HA4.out fun g hg => hbw.block g (own_lt HA4.out hg).2) hm4 hlen (arcs_lt HOK.out) (by simpa using hrow) (by omega) (fun x hx => by rw [List.mem_singleton.1 hx]; exact hixl))
    obtain ⟨hs0, hs1⟩ := cells2 HS6.out
    clear r1 r2 r3 hr1 hrow hbw HO5 HB5 HCE H1c HXb HYb HZb HA5 HS4 HA4 HB4
    go_wp2_with fail
    refine HEV.out.mono ?_
    rintro e w7 ⟨b, rfl, hbb, hb⟩
    have HE := hide (HN.out w7 b (hbb.trans ⟨fun hh i hi => (CanTo.congr HIX.out).1 (hh i hi), fun hh i hi => (CanTo.congr HIX.out).2 (hh i hi)⟩) (HB6.out.trans (hb.mono HB6.out.size)))
    clear hbb hb
    go_wp2_with fail
    go_ret2
    exact HE.out
  · have HN := hide (fun W b hx (hW : Below w.heap.size w W) => ihEnd_yes (w := w) (w' := W) (b := b) hso HOK.out hx hW)
    have HIX := hide (fun i => no_idx (s := s) (xs := xs) hin i)
    unfold findL at HFI
    rw [if_neg hin] at HFI
    clear hin hso
    go_wp2_with (go_at_call 53; refine HG.out.mono ?_; rintro e w' ⟨rfl, rfl⟩)
    generalize w1.alloc (.cells #[.slice ma s.ms.length mc, .slice aa s.ar.length ac] 30) = v3 at *
    refine HFI.out.mono ?_
    rintro e w2 ⟨rfl, q, rfl⟩
    have hbq := below_drewN' v3 q
    have HB4 := hide (HB3.out.trans (hbq.mono HB3.out.size))
    have HS4 := hide (keep HS3.out hbq)
    have HA4 := hide (ownsRow_kept HA3.out fun g hg => hbq.block g (own_lt HA3.out hg).2)
    generalize v3.drewN q = v4 at *
    clear HG HFI HB3 HS3 HN3 HX3 HM3 HA3 hc0 hc1 hs0 hs1 hbq
    have HEV := hide (everywhere_any ma aa none s.ms.length mc ac 0 0 _ [] s.ar v4 HA4.out hm4 hlen (arcs_lt HOK.out) ⟨rfl, .inl rfl⟩ (by omega) (fun x hx => by cases hx))
    obtain ⟨hs0, hs1⟩ := cells2 HS4.out
    go_wp2_with fail
    refine HEV.out.mono ?_
    rintro e w7 ⟨b, rfl, hbb, hb⟩
    have HE := hide (HN.out w7 b (hbb.trans ⟨fun hh i hi => (CanTo.congr HIX.out).1 (hh i hi), fun hh i hi => (CanTo.congr HIX.out).2 (hh i hi)⟩) (HB4.out.trans (hb.mono HB4.out.size)))
    clear hbb hb
    go_wp2_with fail
    go_ret2
    exact HE.out
end Go.Proofs.Ytedbihlpggficaa
