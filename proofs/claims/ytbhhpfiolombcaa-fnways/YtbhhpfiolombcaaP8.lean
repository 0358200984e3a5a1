/- Contracts that the proof stands on, one behind the other. -/
import Derived.Test.YtbhhpfiolombcaaP7
import Derived.Deep.AppendLies
/- What the cursor's mark and the Draw functions of chapter 1 answer: some number of places in 0..17 and some lists in new memory, of at most eighteen numbers, whatever the bytes; nothing that was there is written. -/
namespace Go.Proofs.Ytbhhpfiolombcaa
open Go.RowKit

theorem ownsRow_only {w w' : World} {B bc : Nat} {v : Value} {n : Nat} {l : List Value} (h : w.ownsRow B 3 1 v n l) (ho : OnlyC bc w w') (hb : bc < B) : w'.ownsRow B 3 1 v n l := by
  refine ⟨h.1, ?_⟩
  rcases h.2 with h0 | ⟨g, cap, cur, hv, hB, hh, r⟩
  · exact .inl h0
  · exact .inr ⟨g, cap, cur, hv, hB, (ho.block g (by omega)).trans hh, r⟩

/-- What holds while a mark is drawn: w ahead of the call, v now; k numbers have been laid into o. -/
structure MarkSt (w v : World) (bc : Nat) (ca : Option Addr) (cn cc p : Nat) (bs : List Int) (o : Value) (k : Nat) : Prop where
  own : ∃ xs : List Int, v.ownsRow w.heap.size 3 1 o k (xs.map (Value.int .i64))
  cur : Cur v bc ca cn cc p
  bytes : RowB v ca cn bs
  kept : Kept bc w.heap.size w v

theorem MarkSt.only {w v v' : World} {bc : Nat} {ca : Option Addr} {cn cc p p' : Nat} {bs : List Int} {o : Value} {k : Nat} (h : MarkSt w v bc ca cn cc p bs o k) (ho : OnlyC bc v v') (hc : Cur v' bc ca cn cc p') (hap : Apart ca cn bc) (hb : bc < w.heap.size) :
    MarkSt w v' bc ca cn cc p' bs o k := by
  obtain ⟨xs, hx⟩ := h.own
  exact ⟨⟨xs, ownsRow_only hx ho hb⟩, hc, h.bytes.keep ho hap, h.kept.trans (Kept.of_only ho)⟩

theorem MarkSt.alloc {w v : World} {bc : Nat} {ca : Option Addr} {cn cc p : Nat} {bs : List Int} {o : Value} {k : Nat} (h : MarkSt w v bc ca cn cc p bs o k) (ob : Obj) (hap : Apart ca cn bc) :
    MarkSt w (v.alloc ob) bc ca cn cc p bs o k := by
  obtain ⟨xs, hx⟩ := h.own
  have hb := (Below.refl v.heap.size v).alloc (Nat.le_refl _) ob
  exact ⟨⟨xs, hx.alloc ob⟩, h.cur.below hb h.cur.lt, h.bytes.kept (Kept.of_below hb) hap, h.kept.trans ((Kept.of_below hb).mono h.kept.size)⟩

theorem MarkSt.append {w v v' : World} {bc : Nat} {ca : Option Addr} {cn cc p : Nat} {bs : List Int} {o o' : Value} {k : Nat} {xs : List Int} {x : Int} (h : MarkSt w v bc ca cn cc p bs o k) (hx : v.ownsRow w.heap.size 3 1 o k (xs.map (Value.int .i64)))
    (hn : v'.ownsRow w.heap.size 3 1 o' (k + 1) (xs.map (Value.int .i64) ++ [.int .i64 x])) (hg : v.grownBy v' o.ownBlock) (hb : bc < w.heap.size) (hfar : 0 < cn → ∀ y, ca = some y → y.block < w.heap.size) :
    MarkSt w v' bc ca cn cc p bs o' (k + 1) := by
  have hbl : Below w.heap.size v v' := by
    refine (Below.refl w.heap.size v).grown hg h.kept.size fun j hj => ?_
    exact (hx.lt j hj).1
  refine ⟨⟨xs ++ [x], by rw [List.map_append]; exact hn⟩, h.cur.below hbl hb, ?_, h.kept.trans (Kept.of_below hbl)⟩
  refine ⟨h.bytes.1, h.bytes.2.1, ?_⟩
  rcases h.bytes.2.2 with h0 | ⟨b, off, e, hl, hc⟩
  · exact .inl h0
  · exact .inr ⟨b, off, e, Nat.lt_of_lt_of_le hl hbl.size, fun i hi => (World.cell?_of_block (hbl.block b (hfar (by omega) _ e))).trans (hc i hi)⟩

/-- How mark ends. -/
def MarkEnd (bc : Nat) (ca : Option Addr) (cn cc p : Nat) (bs : List Int) (w : World) (e : Ending) (w' : World) : Prop :=
  ∃ a n c xs p', e = .returned (.slice a n c) ∧ n ≤ 18 ∧ p' ≤ p + 60 ∧ Row w' a n xs ∧ Apart a n bc ∧ Cur w' bc ca cn cc p' ∧ RowB w' ca cn bs ∧ Kept bc w.heap.size w w'

theorem ownsRow_row' {B : Nat} {w : World} {v : Value} {n : Nat} {l : List Int} (hown : w.ownsRow B 3 1 v n (l.map (Value.int .i64))) : ∃ a c, v = .slice a n c ∧ Row w a n l := by
  have hl : l.length = n := by have := hown.1; simpa using this
  rcases hown.2 with ⟨rfl, rfl⟩ | ⟨g, cap, cur, rfl, hb, hh, hnc, _, hsz, ht⟩
  · exact ⟨none, 0, rfl, hl, .inl rfl⟩
  · refine ⟨_, cap, rfl, hl, .inr ⟨g, 0, rfl, (Array.getElem?_eq_some_iff.mp hh).1, fun i hi => ?_⟩⟩
    rw [cell_of_row w g (0 + i) _ _ _ hh, Nat.zero_add]
    have e1 : (cur.toList.take (n * 1))[i]? = some (.int .i64 (l.getD i 0)) := by
      rw [ht]; simp [List.getElem?_map, List.getElem?_eq_getElem (show i < l.length by omega)]
    rw [List.getElem?_take_of_lt (by omega)] at e1
    simpa using e1

theorem MarkSt.done {w v : World} {bc : Nat} {ca : Option Addr} {cn cc p q : Nat} {bs : List Int} {o : Value} {k : Nat} (h : MarkSt w v bc ca cn cc q bs o k) (hk : k ≤ 18) (hq : q ≤ p + 60) (hb : bc < w.heap.size) : MarkEnd bc ca cn cc p bs w (.returned o) v := by
  obtain ⟨xs, hx⟩ := h.own
  have hlt := hx.lt
  obtain ⟨a, c, rfl, hr⟩ := ownsRow_row' hx
  refine ⟨a, k, c, xs, q, rfl, hk, hq, hr, fun _ x hx => ?_, h.cur, h.bytes, h.kept⟩
  subst hx
  have := (hlt x.block rfl).1
  omega

/-- .. and the list lies in new memory. -/
def MarkEndW (bc : Nat) (ca : Option Addr) (cn cc p : Nat) (bs : List Int) (w : World) (e : Ending) (w' : World) : Prop :=
  ∃ a n c xs p', e = .returned (.slice a n c) ∧ n ≤ 18 ∧ p' ≤ p + 60 ∧ Row w' a n xs ∧ (0 < n → ∀ x, a = some x → w.heap.size ≤ x.block) ∧ Cur w' bc ca cn cc p' ∧ RowB w' ca cn bs ∧ Kept bc w.heap.size w w'

theorem MarkSt.doneW {w v : World} {bc : Nat} {ca : Option Addr} {cn cc p q : Nat} {bs : List Int} {o : Value} {k : Nat} (h : MarkSt w v bc ca cn cc q bs o k) (hk : k ≤ 18) (hq : q ≤ p + 60) (_hb : bc < w.heap.size) : MarkEndW bc ca cn cc p bs w (.returned o) v := by
  obtain ⟨xs, hx⟩ := h.own
  have hlt := hx.lt
  obtain ⟨a, c, rfl, hr⟩ := ownsRow_row' hx
  refine ⟨a, k, c, xs, q, rfl, hk, hq, hr, fun _ x hx => ?_, h.cur, h.bytes, h.kept⟩
  subst hx
  exact (hlt x.block rfl).1

/-- How a function ends that draws a number of places and a list. -/
def DrawEnd1 (w : World) (e : Ending) (w' : World) : Prop :=
  ∃ (p : Int) (a : Option Addr) (n c : Nat) (xs : List Int), e = .returned (.tuple #[.int .i64 p, .slice a n c]) ∧ n ≤ 18 ∧ Row w' a n xs ∧ Below w.heap.size w w'

/-- .. and two lists. -/
def DrawEnd2 (w : World) (e : Ending) (w' : World) : Prop :=
  ∃ (p : Int) (a : Option Addr) (n c : Nat) (xs : List Int) (b : Option Addr) (m d : Nat) (ys : List Int), e = .returned (.tuple #[.int .i64 p, .slice a n c, .slice b m d]) ∧ n ≤ 18 ∧ m ≤ 18 ∧ Row w' a n xs ∧ Row w' b m ys ∧ Below w.heap.size w w'

theorem RowB.below {w w' : World} {a : Option Addr} {n : Nat} {xs : List Int} (h : RowB w a n xs) (hb : Below w.heap.size w w') : RowB w' a n xs := by
  refine ⟨h.1, h.2.1, ?_⟩
  rcases h.2.2 with h0 | ⟨b, off, e, hl, hc⟩
  · exact .inl h0
  · exact .inr ⟨b, off, e, Nat.lt_of_lt_of_le hl hb.size, fun i hi => (hb.cell (p := ⟨b, off + i, none⟩) hl).trans (hc i hi)⟩

theorem RowB.far {w : World} {ca : Option Addr} {cn : Nat} {bs : List Int} (h : RowB w ca cn bs) (h0 : 0 < cn) (y : Addr) (hy : ca = some y) : y.block < w.heap.size := by
  rcases h.2.2 with h1 | ⟨b, off, e, hl, _⟩
  · omega
  · rw [e] at hy; obtain rfl := Option.some.inj hy; exact hl



end Go.Proofs.Ytbhhpfiolombcaa


/- Drawn flows: DrawGoodFlow, DrawShortNet. -/
namespace Go.Proofs.Ytbhhpfiolombcaa
open Go.RowKit
set_option maxRecDepth 10000

/-- How a draw of a flow ends. -/
def FdEnd (w : World) (e : Ending) (w' : World) : Prop :=
  ∃ (pl : Nat) (u : Value) (k : Nat) (cells : List Value) (s t : Int), e = .returned (.agg #[.int .i64 (pl : Int), u, .int .i64 s, .int .i64 t]) ∧ 2 ≤ pl ∧ pl ≤ 60 ∧ 2 ≤ k ∧ k ≤ 61 ∧ NetW 21 w.heap.size w' u k cells ∧ Below w.heap.size w w'

theorem set4R_below {w v : World} {B b : Nat} (h : Below B w v) (hb : B ≤ b) (y0 y1 y2 y3 : Value) :
    Below B w ((((v.setCell ⟨b, 0, none⟩ y0).setCell ⟨b, 1, none⟩ y1).setCell ⟨b, 2, none⟩ y2).setCell ⟨b, 3, none⟩ y3) :=
  (((h.setCell (p := ⟨b, 0, none⟩) hb y0).setCell (p := ⟨b, 1, none⟩) hb y1).setCell (p := ⟨b, 2, none⟩) hb y2).setCell (p := ⟨b, 3, none⟩) hb y3

/-- The flow is stored in the result's row, which lies below it. -/
theorem fd_done {w v : World} {pl : Nat} {u : Value} {k : Nat} {cells : List Value} {s t : Int} {B : Nat} (h1 : 2 ≤ pl) (h2 : pl ≤ 60) (h3 : 2 ≤ k) (h4 : k ≤ 61) (hn : NetW 21 B v u k cells) (hB : w.heap.size < B) (hb : Below w.heap.size w v) (y0 y1 y2 y3 : Value) :
    FdEnd w (.returned (.agg #[.int .i64 (pl : Int), u, .int .i64 s, .int .i64 t])) ((((v.setCell ⟨w.heap.size, 0, none⟩ y0).setCell ⟨w.heap.size, 1, none⟩ y1).setCell ⟨w.heap.size, 2, none⟩ y2).setCell ⟨w.heap.size, 3, none⟩ y3) :=
  ⟨pl, u, k, cells, s, t, rfl, h1, h2, h3, h4, (hn.moved (by simp [World.setCell]) fun q hq _ => set4R_far (by omega) _ _ _ _).low (by omega), set4R_below hb (Nat.le_refl _) _ _ _ _⟩

set_option maxHeartbeats 1000000 in
theorem drawGoodFlow_any (ca : Option Addr) (cn cc : Nat) (bs : List Int) (w : World) (hr : RowB w ca cn bs) (hn : cn ≤ 1048576) :
    Calls Try.prog 20 #[.slice ca cn cc] w fun e w' => FdEnd w e w' := by
  have hA := below_al w (.cells #[.int .i64 0, .slice none 0 0, .int .i64 0, .int .i64 0] 28)
  have hA2 := below_al (w.alloc (.cells #[.int .i64 0, .slice none 0 0, .int .i64 0, .int .i64 0] 28)) (.cells #[.slice ca cn cc, .int .i64 0, .int .u64 0] 77)
  have y1 : (w.alloc (.cells #[.int .i64 0, .slice none 0 0, .int .i64 0, .int .i64 0] 28)).heap.size = w.heap.size + 1 := by simp
  have y2 : ((w.alloc (.cells #[.int .i64 0, .slice none 0 0, .int .i64 0, .int .i64 0] 28)).alloc (.cells #[.slice ca cn cc, .int .i64 0, .int .u64 0] 77)).heap.size = w.heap.size + 1 + 1 := by simp
  have HB := hide (hA.trans (hA2.mono hA.size))
  have HR := hide (hr.below HB.out)
  have HAP : Hid (Apart ca cn (w.heap.size + 1)) := fun h0 y hy => by have := hr.far h0 y hy; omega
  have HC : Hid (Cur ((w.alloc (.cells #[.int .i64 0, .slice none 0 0, .int .i64 0, .int .i64 0] 28)).alloc (.cells #[.slice ca cn cc, .int .i64 0, .int .u64 0] 77)) (w.heap.size + 1) ca cn cc 0) := ⟨0, by have := heap_alloc_new (w.alloc (.cells #[.int .i64 0, .slice none 0 0, .int .i64 0, .int .i64 0] 28)) (.cells #[.slice ca cn cc, .int .i64 0, .int .u64 0] 77); rw [y1] at this; exact this⟩
  have HRES := hide (keep (heap_alloc_new w (.cells #[.int .i64 0, .slice none 0 0, .int .i64 0, .int .i64 0] 28)) hA2)
  clear hr hA hA2 y1
  go_enter Try.func20, Try.ntmps20
  go_wp2_with fail
  generalize (w.alloc (.cells #[.int .i64 0, .slice none 0 0, .int .i64 0, .int .i64 0] 28)).alloc (.cells #[.slice ca cn cc, .int .i64 0, .int .u64 0] 77) = w2 at *
  refine (flow_draw true (w.heap.size + 1) ca cn cc 0 bs _ HC.out HR.out HAP.out (by omega) hn).mono ?_
  rintro e v1 ⟨pl, u, k, cells, s, t, p1, rfl, h1, h2, h3, h4, hp1, hnet, hcur, hby, hkp⟩
  obtain ⟨g, cp, rfl, _, _⟩ := World.ownsRow.form hnet.own (by omega)
  have HRR := hide ((hkp.block w.heap.size (by omega) (by omega)).trans HRES.out)
  have hbl := HB.out.trans ((hkp.mono HB.out.size).below (by omega))
  have HD := hide (fd_done (s := s) (t := t) h1 h2 h3 h4 hnet (by omega) hbl (.int .i64 (pl : Int)) (.slice (some ⟨g, 0, none⟩) k cp) (.int .i64 s) (.int .i64 t))
  obtain ⟨r0, r1, r2, r3⟩ := cells4R (set4R HRR.out (.int .i64 (pl : Int)) (.slice (some ⟨g, 0, none⟩) k cp) (.int .i64 s) (.int .i64 t))
  obtain ⟨z0, z1, z2, z3, z4, z5, z6, z7⟩ := open4R HRR.out
  clear hnet hcur hby hkp hbl HRES HB HR HC HAP
  go_wp2_with fail
  refine bodyPost_ret (v := .agg #[.int .i64 (pl : Int), .slice (some ⟨g, 0, none⟩) k cp, .int .i64 s, .int .i64 t]) (by simp [results, Try.results20, go_sem, r0, r1, r2, r3]) rfl ?_
  exact HD.out

set_option maxHeartbeats 1000000 in
theorem drawShortNet_any (ca : Option Addr) (cn cc : Nat) (bs : List Int) (w : World) (hr : RowB w ca cn bs) (hn : cn ≤ 1048576) :
    Calls Try.prog 5 #[.slice ca cn cc] w fun e w' => FdEnd w e w' := by
  have HA := hide (below_al w (.cells #[.int .i64 0, .slice none 0 0, .int .i64 0, .int .i64 0] 28))
  have HR := hide (hr.below HA.out)
  have HRES := hide (heap_alloc_new w (.cells #[.int .i64 0, .slice none 0 0, .int .i64 0, .int .i64 0] 28))
  have y1 : (w.alloc (.cells #[.int .i64 0, .slice none 0 0, .int .i64 0, .int .i64 0] 28)).heap.size = w.heap.size + 1 := by simp
  clear hr
  go_enter Try.func5, Try.ntmps5
  go_wp2_with fail
  generalize w.alloc (.cells #[.int .i64 0, .slice none 0 0, .int .i64 0, .int .i64 0] 28) = w2 at *
  refine (drawGoodFlow_any ca cn cc bs _ HR.out hn).mono ?_
  rintro e v1 ⟨pl, u, k, cells, s, t, rfl, h1, h2, h3, h4, hnet, hb⟩
  obtain ⟨g, cp, rfl, _, _⟩ := World.ownsRow.form hnet.own (by omega)
  have HRR := hide (keep HRES.out hb)
  have HD := hide (fd_done (s := s) (t := t) h1 h2 h3 h4 hnet (by omega) (HA.out.trans (hb.mono HA.out.size)) (.int .i64 (pl : Int)) (.slice (some ⟨g, 0, none⟩) k cp) (.int .i64 s) (.int .i64 t))
  obtain ⟨r0, r1, r2, r3⟩ := cells4R (set4R HRR.out (.int .i64 (pl : Int)) (.slice (some ⟨g, 0, none⟩) k cp) (.int .i64 s) (.int .i64 t))
  obtain ⟨z0, z1, z2, z3, z4, z5, z6, z7⟩ := open4R HRR.out
  clear hnet hb HRES HA HR
  go_wp2_with fail
  refine bodyPost_ret (v := .agg #[.int .i64 (pl : Int), .slice (some ⟨g, 0, none⟩) k cp, .int .i64 s, .int .i64 t]) (by simp [results, Try.results5, go_sem, r0, r1, r2, r3]) rfl ?_
  exact HD.out
end Go.Proofs.Ytbhhpfiolombcaa


/- DrawOnWay. -/
namespace Go.Proofs.Ytbhhpfiolombcaa
open Go.RowKit
set_option maxRecDepth 10000

theorem NetOwn.toW {B : Nat} {v : World} {u : Value} {k : Nat} {cells : List Value} (h : NetOwn B v u k cells) : NetW 21 B v u k cells :=
  ⟨h.own, fun j hj => by obtain ⟨a, n, c, xs, e, hn, r⟩ := h.tris j hj; exact ⟨a, n, c, xs, e, by omega, r⟩⟩

/-- How DrawOnWay ends. -/
def OdEnd (w : World) (e : Ending) (w' : World) : Prop :=
  ∃ (pl : Int) (u : Value) (k : Nat) (cells : List Value) (s t : Int), e = .returned (.tuple #[.agg #[.int .i64 pl, u], .int .i64 s, .int .i64 t]) ∧ 1 ≤ k ∧ k ≤ 61 ∧ NetW 21 w.heap.size w' u k cells ∧ Below w.heap.size w w'

theorem od_done {w v : World} {pl : Int} {u : Value} {k : Nat} {cells : List Value} {s t : Int} {B : Nat} (h3 : 1 ≤ k) (h4 : k ≤ 61) (hn : NetW 21 B v u k cells) (hB : w.heap.size < B) (hb : Below w.heap.size w v) (y0 y1 : Value) :
    OdEnd w (.returned (.tuple #[.agg #[.int .i64 pl, u], .int .i64 s, .int .i64 t])) ((v.setCell ⟨w.heap.size, 0, none⟩ y0).setCell ⟨w.heap.size, 1, none⟩ y1) :=
  ⟨pl, u, k, cells, s, t, rfl, h3, h4, (hn.moved (by simp [World.setCell]) fun q hq _ => (Below.heap_setCell _ _ _ _ (show q ≠ w.heap.size by omega)).trans (Below.heap_setCell _ _ _ _ (show q ≠ w.heap.size by omega))).low (by omega), (hb.setCell (p := ⟨w.heap.size, 0, none⟩) (Nat.le_refl _) y0).setCell (p := ⟨w.heap.size, 1, none⟩) (Nat.le_refl _) y1⟩

theorem OdEnd.drew {w w' : World} {e : Ending} (h : OdEnd w e w') : OdEnd w e w'.drew := by
  obtain ⟨pl, u, k, cells, s, t, e1, h1, h2, h3, h4⟩ := h
  exact ⟨pl, u, k, cells, s, t, e1, h1, h2, h3.grow (Below.refl _ w').drew, h4.drew⟩

/-- What is there while DrawOnWay picks its numbers; the net lies in the block V. -/
structure OdS (w v : World) (ca : Option Addr) (cn cc q : Nat) (bs : List Int) (V : Nat) (pl : Int) (u : Value) (k : Nat) (cells : List Value) : Prop where
  var : v.heap[V]? = some (.cells #[.int .i64 pl, u] 26 (0, 0))
  res : v.heap[w.heap.size]? = some (.cells #[.int .i64 0, .slice none 0 0] 26 (0, 0))
  hV : w.heap.size + 1 < V
  net : NetW 21 (w.heap.size + 2) v u k cells
  cur : Cur v (w.heap.size + 1) ca cn cc q
  bytes : RowB v ca cn bs
  bel : Below w.heap.size w v

theorem OdS.only {w v v' : World} {ca : Option Addr} {cn cc q q' : Nat} {bs : List Int} {V : Nat} {pl : Int} {u : Value} {k : Nat} {cells : List Value} (h : OdS w v ca cn cc q bs V pl u k cells) (hap : Apart ca cn (w.heap.size + 1)) (ho : OnlyC (w.heap.size + 1) v v') (hc : Cur v' (w.heap.size + 1) ca cn cc q') : OdS w v' ca cn cc q' bs V pl u k cells := by
  have hV := h.hV
  have hk : Kept (w.heap.size + 1) v.heap.size v v' := Kept.of_only ho
  have hz := h.bel.size
  exact ⟨(ho.block V (by omega)).trans h.var, (ho.block _ (by omega)).trans h.res, hV, h.net.kept hk (Nat.le_refl _) (by omega), hc, h.bytes.kept hk hap, h.bel.trans ((hk.mono hz).below (by omega))⟩

theorem OdS.drew {w v : World} {ca : Option Addr} {cn cc q : Nat} {bs : List Int} {V : Nat} {pl : Int} {u : Value} {k : Nat} {cells : List Value} (h : OdS w v ca cn cc q bs V pl u k cells) (hap : Apart ca cn (w.heap.size + 1)) : OdS w v.drew ca cn cc q bs V pl u k cells :=
  h.only hap ⟨rfl, rfl, rfl, rfl, fun _ _ => rfl⟩ (by obtain ⟨s, hs⟩ := h.cur; exact ⟨s, hs⟩)

set_option maxHeartbeats 2000000 in
theorem drawOnWay_any (ca : Option Addr) (cn cc : Nat) (bs : List Int) (w : World) (hr : RowB w ca cn bs) (hn : cn ≤ 1048576) :
    Calls Try.prog 18 #[.slice ca cn cc] w fun e w' => OdEnd w e w' := by
  have hA := below_al w (.cells #[.int .i64 0, .slice none 0 0] 26)
  have hA2 := below_al (w.alloc (.cells #[.int .i64 0, .slice none 0 0] 26)) (.cells #[.slice ca cn cc, .int .i64 0, .int .u64 0] 77)
  have y1 : (w.alloc (.cells #[.int .i64 0, .slice none 0 0] 26)).heap.size = w.heap.size + 1 := by simp
  have y2 : ((w.alloc (.cells #[.int .i64 0, .slice none 0 0] 26)).alloc (.cells #[.slice ca cn cc, .int .i64 0, .int .u64 0] 77)).heap.size = w.heap.size + 1 + 1 := by simp
  have HB := hide (hA.trans (hA2.mono hA.size))
  have HR := hide (hr.below HB.out)
  have HAP : Hid (Apart ca cn (w.heap.size + 1)) := fun h0 y hy => by have := hr.far h0 y hy; omega
  have HC : Hid (Cur ((w.alloc (.cells #[.int .i64 0, .slice none 0 0] 26)).alloc (.cells #[.slice ca cn cc, .int .i64 0, .int .u64 0] 77)) (w.heap.size + 1) ca cn cc 0) := ⟨0, by have := heap_alloc_new (w.alloc (.cells #[.int .i64 0, .slice none 0 0] 26)) (.cells #[.slice ca cn cc, .int .i64 0, .int .u64 0] 77); rw [y1] at this; exact this⟩
  have HRES := hide (keep (heap_alloc_new w (.cells #[.int .i64 0, .slice none 0 0] 26)) hA2)
  clear hr hA hA2 y1
  go_enter Try.func18, Try.ntmps18
  go_wp2_with fail
  generalize (w.alloc (.cells #[.int .i64 0, .slice none 0 0] 26)).alloc (.cells #[.slice ca cn cc, .int .i64 0, .int .u64 0] 77) = w2 at *
  refine (one_any 2 (w.heap.size + 1) ca cn cc 0 bs _ HC.out HR.out (by omega) hn (by omega) (by omega)).mono ?_
  rintro e v0 ⟨b, rfl, hcur, ho⟩
  have hz0 := ho.size
  have HK0 := hide (Kept.of_only (B := w2.heap.size) ho)
  have HC0 := hide hcur
  have HR0 := hide (HR.out.kept HK0.out HAP.out)
  clear hcur ho HC HR
  cases b
  · go_wp2_with fail
    refine (net_draw true (w.heap.size + 1) ca cn cc 1 bs _ HC0.out HR0.out HAP.out (by omega) hn).mono ?_
    rintro e v1 ⟨pl, u, k, cells, p1, rfl, hpl, hk1, hk5, hp1, hnet, hcur, hby, hkp⟩
    obtain ⟨g, cp, rfl, hgl, _⟩ := World.ownsRow.form hnet.own (by omega)
    have hs1 := hkp.size
    have hA := below_al v1 (.cells #[.int .i64 pl, .slice (some ⟨g, 0, none⟩) k cp] 26)
    have hbl := (HB.out.trans ((HK0.out.mono HB.out.size).below (by omega))).trans (((hkp.mono (by omega)).below (by omega)).trans (hA.mono (by omega)))
    have S0 : Hid (OdS w (v1.alloc (.cells #[.int .i64 pl, .slice (some ⟨g, 0, none⟩) k cp] 26)) ca cn cc p1 bs v1.heap.size pl (.slice (some ⟨g, 0, none⟩) k cp) k cells) :=
      ⟨heap_alloc_new _ _, (hA.block w.heap.size (by omega)).trans ((hkp.block w.heap.size (by omega) (by omega)).trans ((HK0.out.block w.heap.size (by omega) (by omega)).trans HRES.out)), by omega, (hnet.toW.low (by omega)).grow hA, hcur.below hA hcur.lt, hby.below hA, hbl⟩
    clear hnet hcur hby hkp hbl HRES HB HC0 HR0 HK0 hA
    go_wp2_with fail
    generalize v1.alloc (.cells #[.int .i64 pl, .slice (some ⟨g, 0, none⟩) k cp] 26) = v2 at *
    generalize v1.heap.size = V at *
    have S1 := hide (S0.out.drew HAP.out)
    refine wp_region_held_drew (S := fun W => W.cell? ⟨V, 0, none⟩ = some (.int .i64 pl) ∧ W.cell? ⟨V, 1, none⟩ = some (.slice (some ⟨g, 0, none⟩) k cp)) (by kernel_rfl) (cells2 S1.out.var) (fun hHeld => ?_)
    refine take_yes (i := 0) (some 23) (.agg #[.int .i64 pl, .slice (some ⟨g, 0, none⟩) k cp]) rfl rfl (by kernel_rfl) (by kernel_rfl) (by kernel_rfl) (fun _ _ _ h => h) (by rfl) (fun W' hSw => by obtain ⟨g0, g1⟩ := hSw; go_simp) (by assumption) ?_
    simp only [Act.put, List.setIfInBounds_toArray, List.set_cons_zero, List.set_cons_succ]
    refine take_yes (i := 1) (some 24) (.pointer (some ⟨w.heap.size + 1, 0, none⟩)) rfl rfl (by kernel_rfl) (by kernel_rfl) (by kernel_rfl) (fun _ _ _ h => h) (by rfl) (fun W' hSw => by obtain ⟨g0, g1⟩ := hSw; go_simp) (by assumption) ?_
    simp only [Act.put, List.setIfInBounds_toArray, List.set_cons_zero, List.set_cons_succ]
    refine take_yes (i := 3) (some 26) (.pointer (some ⟨w.heap.size + 1, 0, none⟩)) rfl rfl (by kernel_rfl) (by kernel_rfl) (by kernel_rfl) (fun _ _ _ h => h) (by rfl) (fun W' hSw => by obtain ⟨g0, g1⟩ := hSw; go_simp) (by assumption) ?_
    simp only [Act.put, List.setIfInBounds_toArray, List.set_cons_zero, List.set_cons_succ]
    refine take_yes (i := 5) (some 28) (.pointer (some ⟨w.heap.size + 1, 0, none⟩)) rfl rfl (by kernel_rfl) (by kernel_rfl) (by kernel_rfl) (fun _ _ _ h => h) (by rfl) (fun W' hSw => by obtain ⟨g0, g1⟩ := hSw; go_simp) (by assumption) ?_
    simp only [Act.put, List.setIfInBounds_toArray, List.set_cons_zero, List.set_cons_succ]
    refine call_next (i := 2) (some 25) rfl rfl (by kernel_rfl) (by rfl) 40 _ _ _ rfl Try.func40 (by decide) rfl #[.pointer (some ⟨w.heap.size + 1, 0, none⟩), .int .i64 5] (mapw2 _ _ _ _ _ rfl rfl) _ (pick_any 5 (w.heap.size + 1) ca cn cc (p1) bs _ S1.out.cur S1.out.bytes (by omega) hn (by omega) (by omega)) ?_
    rintro e v3 ⟨r1, rfl, hr1, hcur, ho⟩
    have S2 := hide (S1.out.only HAP.out ho hcur)
    clear hcur ho
    refine ⟨_, rfl, cells2 S2.out.var, fun hHeld => ?_⟩
    simp only [Act.put, List.setIfInBounds_toArray, List.set_cons_zero, List.set_cons_succ]
    refine call_next (i := 4) (some 27) rfl rfl (by kernel_rfl) (by rfl) 40 _ _ _ rfl Try.func40 (by decide) rfl #[.pointer (some ⟨w.heap.size + 1, 0, none⟩), .int .i64 6] (mapw2 _ _ _ _ _ rfl rfl) _ (pick_any 6 (w.heap.size + 1) ca cn cc (p1 + 1) bs _ S2.out.cur S2.out.bytes (by omega) hn (by omega) (by omega)) ?_
    rintro e v4 ⟨r2, rfl, hr2, hcur, ho⟩
    have S3 := hide (S2.out.only HAP.out ho hcur)
    clear hcur ho
    refine ⟨_, rfl, cells2 S3.out.var, fun hHeld => ?_⟩
    simp only [Act.put, List.setIfInBounds_toArray, List.set_cons_zero, List.set_cons_succ]
    refine call_next (i := 6) (some 29) rfl rfl (by kernel_rfl) (by rfl) 40 _ _ _ rfl Try.func40 (by decide) rfl #[.pointer (some ⟨w.heap.size + 1, 0, none⟩), .int .i64 12] (mapw2 _ _ _ _ _ rfl rfl) _ (pick_any 12 (w.heap.size + 1) ca cn cc (p1 + 1 + 1) bs _ S3.out.cur S3.out.bytes (by omega) hn (by omega) (by omega)) ?_
    rintro e v5 ⟨r3, rfl, hr3, hcur, ho⟩
    have S4 := hide (S3.out.only HAP.out ho hcur)
    clear hcur ho
    refine ⟨_, rfl, cells2 S4.out.var, fun hHeld => ?_⟩
    simp only [Act.put, List.setIfInBounds_toArray, List.set_cons_zero, List.set_cons_succ]
    have hr12 : r3 = 0 ∨ r3 = 1 ∨ r3 = 2 ∨ r3 = 3 ∨ r3 = 4 ∨ r3 = 5 ∨ r3 = 6 ∨ r3 = 7 ∨ r3 = 8 ∨ r3 = 9 ∨ r3 = 10 ∨ r3 = 11 := by omega
    obtain ⟨qz, hqz⟩ : ∃ qz : Int, qz = (if r3 = 11 then 1 else 0) := ⟨_, rfl⟩
    have hqb : 0 ≤ qz ∧ qz ≤ 1 := by rw [hqz]; split <;> omega
    refine take_yes (i := 7) (some 30) (.int .i64 qz) rfl rfl (by kernel_rfl) (by kernel_rfl) (by kernel_rfl) (fun _ _ _ h => h) (by rfl) (fun W' hSw => by (clear hHeld S2 S3 S4 hSw; rcases hr12 with h | h | h | h | h | h | h | h | h | h | h | h <;> (subst h; subst hqz; go_simp; exact IntWalk.i64_in _ (by omega)))) (by assumption) ?_
    simp only [Act.put, List.setIfInBounds_toArray, List.set_cons_zero, List.set_cons_succ]
    refine take_yes (i := 8) (some 31) (.int .i64 ((r2 : Int) - qz)) rfl rfl (by kernel_rfl) (by kernel_rfl) (by kernel_rfl) (fun _ _ _ h => h) (by rfl) (fun W' hSw => by (clear hHeld S2 S3 S4 hSw; go_simp; exact IntWalk.i64_in _ (by omega))) (by assumption) ?_
    simp only [Act.put, List.setIfInBounds_toArray, List.set_cons_zero, List.set_cons_succ]
    have hV5 := S4.out.hV
    refine store_next (i := 9) rfl rfl (by kernel_rfl) (by rfl) 26 _ _ rfl w.heap.size #[.int .i64 pl, .slice (some ⟨g, 0, none⟩) k cp] rfl rfl 26 _ S4.out.res (by kernel_rfl) rfl (by simp [Value.oneCell']) ?_ (fun hHeld => ?_)
    · exact cells2 ((setRow_otherW _ (show V ≠ w.heap.size by omega) _).trans S4.out.var)
    refine take_yes (i := 10) (some 3) (.int .i64 (r1 : Int)) rfl rfl (by kernel_rfl) (by kernel_rfl) (by kernel_rfl) (fun _ _ _ h => h) (by rfl) (fun W' hSw => by obtain ⟨g0, g1⟩ := hSw; go_simp) (by assumption) ?_
    simp only [Act.put, List.setIfInBounds_toArray, List.set_cons_zero, List.set_cons_succ]
    refine take_yes (i := 11) (some 4) (.int .i64 ((r2 : Int) - qz)) rfl rfl (by kernel_rfl) (by kernel_rfl) (by kernel_rfl) (fun _ _ _ h => h) (by rfl) (fun W' hSw => by obtain ⟨g0, g1⟩ := hSw; go_simp) (by assumption) ?_
    simp only [Act.put, List.setIfInBounds_toArray, List.set_cons_zero, List.set_cons_succ]
    refine wpAnyH_done (by kernel_rfl) ?_ _
    obtain ⟨t0, t1⟩ := cells2 (setRow_sameW S4.out.res #[.int .i64 pl, .slice (some ⟨g, 0, none⟩) k cp])
    have hz5 : v5.heap.size ≤ (v5.setRow w.heap.size #[.int .i64 pl, .slice (some ⟨g, 0, none⟩) k cp]).heap.size := by simp [World.setRow]
    have HD : Hid (OdEnd w (.returned (.tuple #[.agg #[.int .i64 pl, .slice (some ⟨g, 0, none⟩) k cp], .int .i64 (r1 : Int), .int .i64 ((r2 : Int) - qz)])) (v5.setRow w.heap.size #[.int .i64 pl, .slice (some ⟨g, 0, none⟩) k cp])) :=
      ⟨pl, _, k, cells, _, _, rfl, hk1, by omega, (S4.out.net.moved hz5 fun q hq _ => setRow_otherW _ (by omega) _).low (by omega), S4.out.bel.trans ⟨rfl, rfl, rfl, hz5, fun q hq => setRow_otherW _ (by omega) _⟩⟩
    clear S1 S2 S3 S4 hHeld S0
    go_wp2_with fail
    refine bodyPost_ret (v := .tuple #[.agg #[.int .i64 pl, .slice (some ⟨g, 0, none⟩) k cp], .int .i64 (r1 : Int), .int .i64 ((r2 : Int) - qz)]) (by simp [results, Try.results18, go_sem, t0, t1]) rfl ?_
    exact HD.out
  · go_wp2_with fail
    refine (flow_draw true (w.heap.size + 1) ca cn cc 1 bs _ HC0.out HR0.out HAP.out (by omega) hn).mono ?_
    rintro e v1 ⟨pl, u, k, cells, s, t, p1, rfl, h1, h2, h3, h4, hp1, hnet, hcur, hby, hkp⟩
    obtain ⟨g, cp, rfl, hgl, _⟩ := World.ownsRow.form hnet.own (by omega)
    have hA := below_al v1 (.cells #[.int .i64 (pl : Int), .slice (some ⟨g, 0, none⟩) k cp, .int .i64 s, .int .i64 t] 28)
    have hs1 := hkp.size
    have HRR := hide ((hA.block w.heap.size (by omega)).trans ((hkp.block w.heap.size (by omega) (by omega)).trans ((HK0.out.block w.heap.size (by omega) (by omega)).trans HRES.out)))
    have HFF := hide (heap_alloc_new v1 (.cells #[.int .i64 (pl : Int), .slice (some ⟨g, 0, none⟩) k cp, .int .i64 s, .int .i64 t] 28))
    have hbl := (HB.out.trans ((HK0.out.mono HB.out.size).below (by omega))).trans (((hkp.mono (by omega)).below (by omega)).trans (hA.mono (by omega)))
    have HD := hide (od_done (s := s) (t := t) (pl := (pl : Int)) (by omega) h4 (hnet.grow hA) (by omega) hbl (.int .i64 (pl : Int)) (.slice (some ⟨g, 0, none⟩) k cp))
    have HS1 := hide (show w.heap.size < v1.heap.size by omega)
    clear hnet hcur hby hkp hbl HRES HB HC0 HR0 HK0 hA
    go_wp2_with fail
    generalize v1.alloc (.cells #[.int .i64 (pl : Int), .slice (some ⟨g, 0, none⟩) k cp, .int .i64 s, .int .i64 t] 28) = v2 at *
    generalize v1.heap.size = F at *
    obtain ⟨f0, f1, f2, f3⟩ := cells4R HFF.out
    obtain ⟨z0, z1⟩ := cells2 HRR.out
    have z2 : v2.frozen? ⟨w.heap.size, 0, none⟩ = false := frozen_of_row v2 w.heap.size 0 _ _ HRR.out
    have z3 : v2.frozen? ⟨w.heap.size, 1, none⟩ = false := frozen_of_row v2 w.heap.size 1 _ _ HRR.out
    have hFw := HS1.out
    go_region
    obtain ⟨r0, r1⟩ := cells2 (show ((v2.setCell ⟨w.heap.size, 0, none⟩ (.int .i64 (pl : Int))).setCell ⟨w.heap.size, 1, none⟩ (.slice (some ⟨g, 0, none⟩) k cp)).heap[w.heap.size]? = some (.cells #[.int .i64 (pl : Int), .slice (some ⟨g, 0, none⟩) k cp] 26 (0, 0)) by rw [heap_setCell_same _ _ 1 _ _ _ (heap_setCell_same _ _ 0 _ _ _ HRR.out)]; rfl)
    go_wp2_with fail
    refine bodyPost_ret (v := .tuple #[.agg #[.int .i64 (pl : Int), .slice (some ⟨g, 0, none⟩) k cp], .int .i64 s, .int .i64 t]) (by simp [results, Try.results18, go_sem, r0, r1]) rfl ?_
    first
      | exact HD.out
      | exact HD.out.drew
end Go.Proofs.Ytbhhpfiolombcaa


/- What the second half of a law over a net and a list keeps in mind: the net and the list handed in, the list answered, each in blocks of their own, and the specification's answer, while memory grows and blocks are marked. -/
namespace Go.Proofs.Ytbhhpfiolombcaa
open Go.RowKit

theorem PartF.lists {w : World} {B hi n : Nat} {T : TypeId} {L : List (List Int)} (h : PartF w B hi (3 * n) T (fun j => L.getD j [])) (hl : L.length = 3 * n) (hs : sizeN n L ≤ 1048576) : Lists w (some ⟨B, 0, none⟩) (3 * n) L := by
  obtain ⟨C, f, h1, h2, h3, h4⟩ := h
  refine ⟨hl, .inr ⟨B, 0, rfl, (Array.getElem?_eq_some_iff.mp h1).1, fun j hj => ?_⟩⟩
  obtain ⟨e1, e2, e3, e4⟩ := h3 j hj
  refine ⟨_, _, _, by rw [cell_of_row w B (0 + j) C T _ h1, Nat.zero_add]; exact e1, ?_, e4.row⟩
  have := len_le L j
  show (L.getD j []).length ≤ maxLen
  unfold sizeN at hs; unfold maxLen; omega

theorem cntF_size (L : List (List Int)) (k : Nat) (hk : k ≤ L.length) : cntF (fun j => L.getD j []) k = sizeL (L.take k) := by
  induction k with
  | zero => simp [cntF, sizeL]
  | succ k ih => simp only [cntF]; rw [ih (by omega), sizeL_take_succ L k (by omega)]

theorem cntF_all {L : List (List Int)} {n : Nat} (hl : L.length = 3 * n) : cntF (fun j => L.getD j []) (3 * n) = sizeL L := by
  rw [cntF_size L (3 * n) (by omega), List.take_of_length_le (by omega)]

variable {w u v v' : World} {p : Int} {a : Option Addr} {n c B hi bx : Nat} {M : Nat → List Int} {ax : Option Addr} {b1 nm : Nat} {ly : List Int} {ag : Option Addr} {bg ng : Nat} {lg l : List Int}

theorem PartF.only {w w' : World} {B hi n b : Nat} {T : TypeId} {M : Nat → List Int} (h : PartF w B hi n T M) (ho : Only b w w') (hb : hi ≤ b) (hB : B ≠ b) : PartF w' B hi n T M := by
  obtain ⟨C, f, h1, h2, h3, h4⟩ := h
  refine ⟨C, f, (ho.block B hB).trans h1, h2, fun j hj => ?_, h4⟩
  obtain ⟨e1, e2, e3, e4⟩ := h3 j hj
  exact ⟨e1, e2, e3, e4.only ho (by omega)⟩

theorem blk_new' (w : World) (xs : List Int) (n : Nat) (hl : xs.length = n) : Blk (w.alloc (.cells (cellsOf xs) 3)) (some ⟨w.heap.size, 0, none⟩) w.heap.size n xs :=
  ⟨hl, .inr ⟨rfl, heap_alloc_new _ _⟩⟩
end Go.Proofs.Ytbhhpfiolombcaa


/- Lists that an append has made: a block of its own, in which there may be more room; what markIntS writes into one; and the state of a law over a net whose answer is such a list. -/
namespace Go.Proofs.Ytbhhpfiolombcaa
open Go.RowKit

/-- A slice of n numbers from the head of the block b, in which there may be more room; or an empty one. -/
def Ob (w : World) (a : Option Addr) (b n : Nat) (xs : List Int) : Prop :=
  xs.length = n ∧ (n = 0 ∨ (a = some ⟨b, 0, none⟩ ∧ ∃ cur, w.heap[b]? = some (.cells cur 3 (0, 0)) ∧ n ≤ cur.size ∧ ∀ i, i < n → cur[i]? = some (.int .i64 (xs.getD i 0))))

theorem Ob.row {w : World} {a : Option Addr} {b n : Nat} {xs : List Int} (h : Ob w a b n xs) : Row w a n xs := by
  rcases h.2 with h0 | ⟨e, cur, h1, h2, h3⟩
  · exact ⟨h.1, .inl h0⟩
  · refine ⟨h.1, .inr ⟨b, 0, e, (Array.getElem?_eq_some_iff.mp h1).1, fun i hi => ?_⟩⟩
    rw [cell_of_row w b (0 + i) _ _ _ h1, Nat.zero_add]
    exact h3 i hi

theorem Ob.grow {w w' : World} {a : Option Addr} {b n : Nat} {xs : List Int} (h : Ob w a b n xs) (hb : Below w.heap.size w w') : Ob w' a b n xs := by
  refine ⟨h.1, ?_⟩
  rcases h.2 with h0 | ⟨e, cur, h1, h2⟩
  · exact .inl h0
  · exact .inr ⟨e, cur, (hb.block b (Array.getElem?_eq_some_iff.mp h1).1).trans h1, h2⟩

theorem Ob.only {w w' : World} {a : Option Addr} {b c n : Nat} {xs : List Int} (h : Ob w a b n xs) (ho : Only c w w') (hB : b ≠ c) : Ob w' a b n xs := by
  refine ⟨h.1, ?_⟩
  rcases h.2 with h0 | ⟨e, cur, h1, h2⟩
  · exact .inl h0
  · exact .inr ⟨e, cur, (ho.block b hB).trans h1, h2⟩

theorem Ob.keeps {w w' : World} {a : Option Addr} {b n lo hi : Nat} {xs : List Int} (h : Ob w a b n xs) (hk : Keeps lo hi w w') (hb : hi ≤ b) : Ob w' a b n xs := by
  refine ⟨h.1, ?_⟩
  rcases h.2 with h0 | ⟨e, cur, h1, h2⟩
  · exact .inl h0
  · exact .inr ⟨e, cur, (hk.top b hb (Array.getElem?_eq_some_iff.mp h1).1).trans h1, h2⟩

/-- The first k of n numbers are there. -/
def FillR (xs : List Int) (n k : Nat) (cs : Array Value) : Prop := n ≤ cs.size ∧ ∀ i, i < k → cs[i]? = some (.int .i64 (xs.getD i 0))

theorem set_fillR {xs : List Int} {n k : Nat} {cs : Array Value} {x : Int} (h : FillR xs n k cs) (hk : k < n) (hx : xs.getD k 0 = x) : FillR xs n (k + 1) (cs.setIfInBounds k (.int .i64 x)) := by
  obtain ⟨h1, h2⟩ := h
  refine ⟨by simp; exact h1, fun i hi => ?_⟩
  rw [Array.getElem?_setIfInBounds]
  by_cases e : k = i
  · subst e; rw [if_pos rfl, if_pos (by omega), hx]
  · rw [if_neg e]; exact h2 i (by omega)

variable {w u v v' : World} {p : Int} {a : Option Addr} {n c B hi bx : Nat} {M : Nat → List Int} {ax : Option Addr} {b1 nm : Nat} {ly : List Int} {ag : Option Addr} {bg ng : Nat} {lg l : List Int}

end Go.Proofs.Ytbhhpfiolombcaa


/- Nets whose lists append has made: each list in a block of its own in which there may be more room, or empty; what markTransS and markNet write into one, and what heldTransS and heldNet answer. -/
namespace Go.Proofs.Ytbhhpfiolombcaa
open Go.RowKit

/-- Lists by their number, each that is not empty in a block of its own between lo and hi. -/
def PartG (w : World) (B lo hi n : Nat) (T : TypeId) (M : Nat → List Int) : Prop :=
  ∃ (C : Array Value) (A : Nat → Option Addr) (f cap : Nat → Nat), w.heap[B]? = some (.cells C T (0, 0)) ∧ n ≤ C.size ∧
    (∀ j, j < n → C[j]? = some (.slice (A j) (M j).length (cap j)) ∧ Ob w (A j) (f j) (M j).length (M j) ∧ (M j ≠ [] → lo ≤ f j ∧ f j < hi ∧ f j ≠ B)) ∧
    (∀ i j, i < j → j < n → M i ≠ [] → M j ≠ [] → f i ≠ f j)

theorem PartG.grow {w w' : World} {B lo hi n : Nat} {T : TypeId} {M : Nat → List Int} (h : PartG w B lo hi n T M) (hb : Below w.heap.size w w') : PartG w' B lo hi n T M := by
  obtain ⟨C, A, f, cap, h1, h2, h3, h4⟩ := h
  refine ⟨C, A, f, cap, (hb.block B (Array.getElem?_eq_some_iff.mp h1).1).trans h1, h2, fun j hj => ?_, h4⟩
  obtain ⟨e1, e2, e3⟩ := h3 j hj
  exact ⟨e1, e2.grow hb, e3⟩

theorem PartG.keeps {w w' : World} {B lo hi n lo' hi' : Nat} {T : TypeId} {M : Nat → List Int} (h : PartG w B lo hi n T M) (hk : Keeps lo' hi' w w') (h1 : hi' ≤ lo) (h2 : hi' ≤ B) : PartG w' B lo hi n T M := by
  obtain ⟨C, A, f, cap, q1, q2, q3, q4⟩ := h
  refine ⟨C, A, f, cap, (hk.top B h2 (Array.getElem?_eq_some_iff.mp q1).1).trans q1, q2, fun j hj => ?_, q4⟩
  obtain ⟨e1, e2, e3⟩ := q3 j hj
  refine ⟨e1, ?_, e3⟩
  by_cases he : M j = []
  · rw [he]; exact ⟨rfl, .inl rfl⟩
  · exact e2.keeps hk (by have := (e3 he).1; omega)

theorem markedF_at (k0 : Nat) (M : Nat → List Int) (q : Nat) : markedF k0 M q q = M q := by unfold markedF; rw [if_neg (by omega)]

/-- A net's slice: nil where there is no transition, or a block that leads to the lists. -/
def NetG (w : World) (a : Option Addr) (B lo hi n : Nat) (M : Nat → List Int) : Prop := n = 0 ∨ (a = some ⟨B, 0, none⟩ ∧ PartG w B lo hi (3 * n) 52 M)

theorem NetG.lists {w : World} {a : Option Addr} {B lo hi n : Nat} {L : List (List Int)} (h : NetG w a B lo hi n (fun j => L.getD j [])) (hl : L.length = 3 * n) (hs : sizeN n L ≤ 1048576) : Lists w a (3 * n) L := by
  rcases h with h0 | ⟨rfl, C, A, f, cap, h1, h2, h3, h4⟩
  · exact ⟨hl, .inl (by omega)⟩
  · refine ⟨hl, .inr ⟨B, 0, rfl, (Array.getElem?_eq_some_iff.mp h1).1, fun j hj => ?_⟩⟩
    obtain ⟨e1, e2, e3⟩ := h3 j hj
    refine ⟨_, _, _, by rw [cell_of_row w B (0 + j) C _ _ h1, Nat.zero_add]; exact e1, ?_, e2.row⟩
    have := len_le L j
    show (L.getD j []).length ≤ maxLen
    unfold sizeN at hs; unfold maxLen; omega

/-- Lists by their number, to be read. -/
def ListsF (w : World) (a : Option Addr) (n : Nat) (M : Nat → List Int) : Prop :=
  n = 0 ∨ ∃ b off, a = some ⟨b, off, none⟩ ∧ ∀ j, j < n → ∃ a' c', w.cell? ⟨b, off + j, none⟩ = some (.slice a' (M j).length c') ∧ Row w a' (M j).length (M j)

theorem NetG.listsF {w : World} {a : Option Addr} {B lo hi n : Nat} {M : Nat → List Int} (h : NetG w a B lo hi n M) : ListsF w a (3 * n) M := by
  rcases h with h0 | ⟨rfl, C, A, f, cap, h1, h2, h3, h4⟩
  · exact .inl (by omega)
  · refine .inr ⟨B, 0, rfl, fun j hj => ?_⟩
    obtain ⟨e1, e2, e3⟩ := h3 j hj
    exact ⟨_, _, by rw [cell_of_row w B (0 + j) C _ _ h1, Nat.zero_add]; exact e1, e2.row⟩

end Go.Proofs.Ytbhhpfiolombcaa


/- A list of transitions that is being made: its cells in a row of its own, each of its lists in a block of its own. -/
namespace Go.Proofs.Ytbhhpfiolombcaa
open Go.RowKit

theorem Ob.movedX {w w' : World} {a : Option Addr} {b n : Nat} {xs : List Int} (h : Ob w a b n xs) (hh : xs ≠ [] → w'.heap[b]? = w.heap[b]?) : Ob w' a b n xs := by
  rcases h with ⟨h1, h0 | ⟨e, cur, q1, q2, q3⟩⟩
  · exact ⟨h1, .inl h0⟩
  · by_cases hx : xs = []
    · subst hx; exact ⟨h1, .inl (by rw [← h1]; rfl)⟩
    · exact ⟨h1, .inr ⟨e, cur, (hh hx).trans q1, q2, q3⟩⟩

theorem Ob.ltX {w : World} {a : Option Addr} {b m : Nat} {X : List Int} (ho : Ob w a b m X) (hx : X ≠ []) : b < w.heap.size := by
  rcases ho with ⟨q, h0 | ⟨_, cur, hh, _⟩⟩
  · exact absurd (List.length_eq_zero_iff.mp (q.trans h0)) hx
  · exact (Array.getElem?_eq_some_iff.mp hh).1

/-- v is a slice of k transitions in a row of its own, whose lists are K. -/
structure Tris (w : World) (lo : Nat) (v : Value) (k : Nat) (K : List (List Int)) (cells : List Value) (A : Nat → Option Addr) (f cap : Nat → Nat) : Prop where
  len : K.length = 3 * k
  own : w.ownsRow lo 52 3 v k cells
  tri : ∀ j, j < 3 * k → cells[j]? = some (.slice (A j) (K.getD j []).length (cap j)) ∧ Ob w (A j) (f j) (K.getD j []).length (K.getD j []) ∧ (K.getD j [] ≠ [] → lo ≤ f j ∧ f j < w.heap.size ∧ v.ownBlock ≠ some (f j))
  apart : ∀ i j, i < j → j < 3 * k → K.getD i [] ≠ [] → K.getD j [] ≠ [] → f i ≠ f j

def TriX (w : World) (lo : Nat) (v : Value) (k : Nat) (K : List (List Int)) : Prop := ∃ cells A f cap, Tris w lo v k K cells A f cap

theorem TriX.nil (w : World) (lo : Nat) : TriX w lo (.slice none 0 0) 0 [] :=
  ⟨[], fun _ => none, fun _ => 0, fun _ => 0, rfl, ⟨rfl, .inl ⟨rfl, rfl⟩⟩, fun j hj => absurd hj (by omega), fun i j _ hj => absurd hj (by omega)⟩

/-- Where the blocks from lo on are as they were. -/
theorem TriX.high {w w' : World} {lo : Nat} {v : Value} {k : Nat} {K : List (List Int)} (h : TriX w lo v k K) (hh : ∀ q, lo ≤ q → q < w.heap.size → w'.heap[q]? = w.heap[q]?) (hs : w.heap.size ≤ w'.heap.size) : TriX w' lo v k K := by
  obtain ⟨cells, A, f, cap, h1, h2, h3, h4⟩ := h
  refine ⟨cells, A, f, cap, h1, ⟨h2.1, ?_⟩, fun j hj => ?_, h4⟩
  · rcases h2.2 with hn | ⟨g, cp, cur, e, hg, hq, r⟩
    · exact .inl hn
    · exact .inr ⟨g, cp, cur, e, hg, (hh g hg (Array.getElem?_eq_some_iff.mp hq).1).trans hq, r⟩
  · obtain ⟨q1, q2, q3⟩ := h3 j hj
    exact ⟨q1, q2.movedX fun hx => hh _ (q3 hx).1 (q3 hx).2.1, fun hx => ⟨(q3 hx).1, by have := (q3 hx).2.1; omega, (q3 hx).2.2⟩⟩

theorem TriX.grow {w w' : World} {lo : Nat} {v : Value} {k : Nat} {K : List (List Int)} (h : TriX w lo v k K) (hb : Below w.heap.size w w') : TriX w' lo v k K :=
  h.high (fun q _ hq => hb.block q hq) hb.size

theorem TriX.low {w : World} {lo : Nat} {v : Value} {k : Nat} {K : List (List Int)} (h : TriX w lo v k K) {b : Nat} (hb : b < lo) (o : Nat) (u : Value) : TriX (w.setCell ⟨b, o, none⟩ u) lo v k K :=
  h.high (fun q hq _ => Below.heap_setCell _ _ _ _ (by show q ≠ b; omega)) (by simp [World.setCell])

theorem getD_app {K N : List (List Int)} {j : Nat} : (K ++ N).getD j [] = if j < K.length then K.getD j [] else N.getD (j - K.length) [] := by
  simp only [List.getD_eq_getElem?_getD]
  split
  · rw [List.getElem?_append_left (by omega)]
  · rw [List.getElem?_append_right (by omega)]

theorem Tris.grow {w w' : World} {lo : Nat} {v : Value} {k : Nat} {K : List (List Int)} {cells : List Value} {A : Nat → Option Addr} {f cap : Nat → Nat} (h : Tris w lo v k K cells A f cap) (hb : Below w.heap.size w w') : Tris w' lo v k K cells A f cap := by
  refine ⟨h.len, ⟨h.own.1, ?_⟩, fun j hj => ?_, h.apart⟩
  · rcases h.own.2 with hn | ⟨g, cp, cur, e, hg, hq, r⟩
    · exact .inl hn
    · exact .inr ⟨g, cp, cur, e, hg, (hb.block g (Array.getElem?_eq_some_iff.mp hq).1).trans hq, r⟩
  · obtain ⟨q1, q2, q3⟩ := h.tri j hj
    exact ⟨q1, q2.grow hb, fun hx => ⟨(q3 hx).1, by have := (q3 hx).2.1; have := hb.size; omega, (q3 hx).2.2⟩⟩

/-- One transition more is appended: w is the world ahead of its lists, v3 the one behind them, W the one behind the append. -/
theorem Tris.push {w v3 W : World} {lo : Nat} {v : Value} {k : Nat} {K : List (List Int)} {cells : List Value} {A : Nat → Option Addr} {f cap : Nat → Nat} (h : Tris w lo v k K cells A f cap) (hb : Below w.heap.size w v3) (hlo : lo ≤ w.heap.size)
    {a0 a1 a2 : Option Addr} {b0 b1 b2 m0 m1 m2 c0 c1 c2 g cp : Nat} {X0 X1 X2 : List Int} (o0 : Ob v3 a0 b0 m0 X0) (o1 : Ob v3 a1 b1 m1 X1) (o2 : Ob v3 a2 b2 m2 X2)
    (g0 : X0 ≠ [] → w.heap.size ≤ b0) (g1 : X1 ≠ [] → w.heap.size ≤ b1) (g2 : X2 ≠ [] → w.heap.size ≤ b2)
    (d01 : X0 ≠ [] → X1 ≠ [] → b0 ≠ b1) (d02 : X0 ≠ [] → X2 ≠ [] → b0 ≠ b2) (d12 : X1 ≠ [] → X2 ≠ [] → b1 ≠ b2)
    (hown : W.ownsRow lo 52 3 (.slice (some ⟨g, 0, none⟩) (k + 1) cp) (k + 1) (cells ++ [.slice a0 m0 c0, .slice a1 m1 c1, .slice a2 m2 c2])) (hgr : v3.grownBy W v.ownBlock) (hl : v.ownBlock = some g ∨ g = v3.heap.size) :
    TriX W lo (.slice (some ⟨g, 0, none⟩) (k + 1) cp) (k + 1) (K ++ [X0, X1, X2]) := by
  have hob : ∀ q, v.ownBlock = some q → lo ≤ q ∧ q < w.heap.size := h.own.lt
  have hcl : cells.length = 3 * k := by have := h.own.1; omega
  have hkl := h.len
  have hgs := hgr.size
  have hbs := hb.size
  have hnew : ∀ {b : Nat}, w.heap.size ≤ b → b < v3.heap.size → some b ≠ v.ownBlock ∧ b ≠ g := by
    intro b hb1 hb2
    refine ⟨fun e => by have := hob b e.symm; omega, fun e => ?_⟩
    rcases hl with hl | hl
    · have := hob g hl; omega
    · omega
  have K0 : (K ++ [X0, X1, X2]).getD (3 * k) [] = X0 := by rw [getD_app, if_neg (by omega), hkl, Nat.sub_self]; rfl
  have K1 : (K ++ [X0, X1, X2]).getD (3 * k + 1) [] = X1 := by rw [getD_app, if_neg (by omega), hkl, show 3 * k + 1 - 3 * k = 1 by omega]; rfl
  have K2 : (K ++ [X0, X1, X2]).getD (3 * k + 2) [] = X2 := by rw [getD_app, if_neg (by omega), hkl, show 3 * k + 2 - 3 * k = 2 by omega]; rfl
  have Kold : ∀ j, j < 3 * k → (K ++ [X0, X1, X2]).getD j [] = K.getD j [] := fun j hj => by rw [getD_app, if_pos (by omega)]
  have one : ∀ {a : Option Addr} {b m : Nat} {X : List Int}, Ob v3 a b m X → (X ≠ [] → w.heap.size ≤ b) → Ob W a b m X ∧ (X ≠ [] → lo ≤ b ∧ b < W.heap.size ∧ (Value.slice (some ⟨g, 0, none⟩) (k + 1) cp).ownBlock ≠ some b) := by
    intro a b m X ho hge
    refine ⟨ho.movedX fun hx => ?_, fun hx => ?_⟩
    · have hlt := ho.ltX hx
      exact hgr.block b hlt (hnew (hge hx) hlt).1
    · have hlt := ho.ltX hx
      have := hge hx
      exact ⟨by omega, by omega, fun e => (hnew (hge hx) hlt).2 (by simpa [Value.ownBlock] using e.symm)⟩
  refine ⟨_, fun j => if j = 3 * k then a0 else if j = 3 * k + 1 then a1 else if j = 3 * k + 2 then a2 else A j, fun j => if j = 3 * k then b0 else if j = 3 * k + 1 then b1 else if j = 3 * k + 2 then b2 else f j, fun j => if j = 3 * k then c0 else if j = 3 * k + 1 then c1 else if j = 3 * k + 2 then c2 else cap j, by rw [List.length_append, hkl]; simp; omega, hown, fun j hj => ?_, fun i j hij hj hi0 hj0 => ?_⟩
  · by_cases j0 : j = 3 * k
    · subst j0
      simp only [if_true]
      rw [K0, o0.1]
      refine ⟨by rw [List.getElem?_append_right (by omega), hcl]; simp, (one o0 g0).1, (one o0 g0).2⟩
    · by_cases j1 : j = 3 * k + 1
      · subst j1
        simp only [if_neg j0, if_true]
        rw [K1, o1.1]
        refine ⟨by rw [List.getElem?_append_right (by omega), hcl]; simp [show 3 * k + 1 - 3 * k = 1 by omega], (one o1 g1).1, (one o1 g1).2⟩
      · by_cases j2 : j = 3 * k + 2
        · subst j2
          simp only [if_neg j0, if_neg j1, if_true]
          rw [K2, o2.1]
          refine ⟨by rw [List.getElem?_append_right (by omega), hcl]; simp [show 3 * k + 2 - 3 * k = 2 by omega], (one o2 g2).1, (one o2 g2).2⟩
        · simp only [if_neg j0, if_neg j1, if_neg j2]
          have hlt : j < 3 * k := by omega
          obtain ⟨q1, q2, q3⟩ := h.tri j hlt
          rw [Kold j hlt]
          refine ⟨by rw [List.getElem?_append_left (by omega)]; exact q1, (q2.grow hb).movedX fun hx => ?_, fun hx => ?_⟩
          · obtain ⟨r1, r2, r3⟩ := q3 hx
            exact hgr.block (f j) (by omega) (fun e => r3 e.symm)
          · obtain ⟨r1, r2, r3⟩ := q3 hx
            refine ⟨r1, by omega, fun e => ?_⟩
            have e' : g = f j := by simpa [Value.ownBlock] using e
            rcases hl with hl | hl
            · rw [e'] at hl; exact r3 hl
            · omega
  · have hfw : ∀ j, j < 3 * k → K.getD j [] ≠ [] → f j < w.heap.size := fun j hj hx => ((h.tri j hj).2.2 hx).2.1
    by_cases j0 : j = 3 * k
    · subst j0
      simp only [if_neg (show i ≠ 3 * k by omega), if_neg (show i ≠ 3 * k + 1 by omega), if_neg (show i ≠ 3 * k + 2 by omega), if_true]
      rw [Kold i hij] at hi0
      rw [K0] at hj0
      have := hfw i hij hi0; have := g0 hj0; omega
    · by_cases j1 : j = 3 * k + 1
      · subst j1
        simp only [if_neg j0, if_true]
        rw [K1] at hj0
        by_cases i0 : i = 3 * k
        · subst i0; simp only [if_true]; rw [K0] at hi0; exact d01 hi0 hj0
        · simp only [if_neg i0, if_neg (show i ≠ 3 * k + 1 by omega), if_neg (show i ≠ 3 * k + 2 by omega)]
          rw [Kold i (by omega)] at hi0
          have := hfw i (by omega) hi0; have := g1 hj0; omega
      · by_cases j2 : j = 3 * k + 2
        · subst j2
          simp only [if_neg j0, if_neg j1, if_true]
          rw [K2] at hj0
          by_cases i0 : i = 3 * k
          · subst i0; simp only [if_true]; rw [K0] at hi0; exact d02 hi0 hj0
          · by_cases i1 : i = 3 * k + 1
            · subst i1; simp only [if_neg i0, if_true]; rw [K1] at hi0; exact d12 hi0 hj0
            · simp only [if_neg i0, if_neg i1, if_neg (show i ≠ 3 * k + 2 by omega)]
              rw [Kold i (by omega)] at hi0
              have := hfw i (by omega) hi0; have := g2 hj0; omega
        · simp only [if_neg j0, if_neg j1, if_neg j2, if_neg (show i ≠ 3 * k by omega), if_neg (show i ≠ 3 * k + 1 by omega), if_neg (show i ≠ 3 * k + 2 by omega)]
          rw [Kold i (by omega)] at hi0
          rw [Kold j (by omega)] at hj0
          exact h.apart i j hij (by omega) hi0 hj0

/-- It can be read. -/
theorem TriX.lists {w : World} {lo : Nat} {v : Value} {k : Nat} {K : List (List Int)} (h : TriX w lo v k K) (hs : sizeN k K ≤ 1048576) : ∃ a c, v = .slice a k c ∧ Lists w a (3 * k) K := by
  obtain ⟨cells, A, f, cap, h1, h2, h3, h4⟩ := h
  have hcl : cells.length = 3 * k := by have := h2.1; omega
  rcases h2.2 with ⟨e, h0⟩ | ⟨g, cp, cur, e, hg, hh, _, _, hsz, htk⟩
  · subst h0
    exact ⟨none, 0, e, h1, .inl rfl⟩
  · refine ⟨_, cp, e, h1, .inr ⟨g, 0, rfl, (Array.getElem?_eq_some_iff.mp hh).1, fun j hj => ?_⟩⟩
    obtain ⟨q1, q2, q3⟩ := h3 j hj
    have hlen := len_le K j
    refine ⟨A j, (K.getD j []).length, cap j, ?_, ?_, q2.row⟩
    · rw [cell_of_row w g (0 + j) cur _ _ hh, Nat.zero_add]
      have e2 : (cur.toList.take (k * 3))[j]? = cells[j]? := by rw [htk]
      rw [List.getElem?_take_of_lt (by omega), Array.getElem?_toList] at e2
      rw [e2, q1]
    · unfold sizeN at hs; unfold maxLen; omega

/-- It can be marked. -/
theorem TriX.netG {w : World} {lo : Nat} {v : Value} {k : Nat} {K : List (List Int)} (h : TriX w lo v k K) : ∃ a B c, v = .slice a k c ∧ (k = 0 ∨ (lo ≤ B ∧ B < w.heap.size)) ∧ NetG w a B lo w.heap.size k (fun j => K.getD j []) := by
  obtain ⟨cells, A, f, cap, h1, h2, h3, h4⟩ := h
  have hcl : cells.length = 3 * k := by have := h2.1; omega
  rcases h2.2 with ⟨e, h0⟩ | ⟨g, cp, cur, e, hg, hh, hc1, _, hsz, htk⟩
  · subst h0
    exact ⟨none, 0, 0, e, .inl rfl, .inl rfl⟩
  · refine ⟨_, g, cp, e, .inr ⟨hg, (Array.getElem?_eq_some_iff.mp hh).1⟩, .inr ⟨rfl, cur, A, f, cap, hh, by omega, fun j hj => ?_, h4⟩⟩
    obtain ⟨q1, q2, q3⟩ := h3 j hj
    refine ⟨?_, q2, fun hx => ⟨(q3 hx).1, (q3 hx).2.1, fun e2 => (q3 hx).2.2 (by rw [e, e2]; rfl)⟩⟩
    have e2 : (cur.toList.take (k * 3))[j]? = cells[j]? := by rw [htk]
    rw [List.getElem?_take_of_lt (by omega), Array.getElem?_toList] at e2
    rw [e2, q1]

/-- What was made with make and filled. -/
theorem TriX.made {w : World} {B lo n : Nat} {K : List (List Int)} {C : Array Value} {A : Nat → Option Addr} {f cap : Nat → Nat} (hl : K.length = 3 * n) (hh : w.heap[B]? = some (.cells C 52 (0, 0))) (hC : C.size = n * 3) (hB : lo ≤ B) (hn : n ≤ maxLen)
    (h3 : ∀ j, j < 3 * n → C[j]? = some (.slice (A j) (K.getD j []).length (cap j)) ∧ Ob w (A j) (f j) (K.getD j []).length (K.getD j []) ∧ (K.getD j [] ≠ [] → lo ≤ f j ∧ f j < w.heap.size ∧ f j ≠ B)) (h4 : ∀ i j, i < j → j < 3 * n → K.getD i [] ≠ [] → K.getD j [] ≠ [] → f i ≠ f j) :
    TriX w lo (.slice (some ⟨B, 0, none⟩) n n) n K := by
  refine ⟨C.toList, A, f, cap, hl, ⟨by simp [hC], .inr ⟨B, n, C, rfl, hB, hh, Nat.le_refl _, hn, hC, by rw [List.take_of_length_le (by simp [hC])]⟩⟩, fun j hj => ?_, h4⟩
  obtain ⟨q1, q2, q3⟩ := h3 j hj
  exact ⟨by rw [Array.getElem?_toList]; exact q1, q2, fun hx => ⟨(q3 hx).1, (q3 hx).2.1, fun e => (q3 hx).2.2 (by simpa [Value.ownBlock] using e.symm)⟩⟩
end Go.Proofs.Ytbhhpfiolombcaa
