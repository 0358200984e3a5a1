/- Contracts that the proof stands on, one behind the other. -/
import Derived.Test.YtajcmamapmeglaaP15
import Derived.Deep.AppendLies
/- What the program's TotalOf answers (the text Total2, over Id's sum). -/
namespace Go.Proofs.Ytajcmamapmeglaa
open Go.RowKit

def getK (xs : List Int) : Nat → Int := fun i => xs.getD i 0
/-- Each number is in 0..50. -/
def SmallK (f : Nat → Int) : Prop := ∀ i, 0 ≤ f i ∧ f i ≤ 50

theorem good_partsK {p : Int} {xs : List Int} (h : goodB p xs = true) : SmallK (getK xs) ∧ xs.length ≤ 16 ∧ 1 ≤ xs.length ∧ (xs.length : Int) = p := by
  simp only [goodB, Bool.and_eq_true, decide_eq_true_eq] at h
  obtain ⟨⟨h1, h2⟩, h3⟩ := h
  refine ⟨fun i => ?_, (inB_le h1 h2).2, (inB_le h1 h2).1, h2⟩
  unfold getK
  by_cases hi : i < xs.length
  · rw [List.getD_eq_getElem?_getD, List.getElem?_eq_getElem hi]
    have := List.all_eq_true.mp h3 xs[i] (List.getElem_mem hi)
    simp [inB] at this
    simpa using this
  · rw [List.getD_eq_getElem?_getD, List.getElem?_eq_none (by omega)]
    simp

theorem small_fOfK {xs : List Int} (h : SmallK (getK xs)) (n : Nat) : SmallK (fOf xs n) := by
  intro i
  unfold fOf
  split
  · exact h i
  · omega

theorem sumF_leK {f : Nat → Int} (h : SmallK f) (k : Nat) : 0 ≤ sumF f k ∧ sumF f k ≤ 50 * k := by
  induction k with
  | zero => simp [sumF]
  | succ k ih => have := h k; simp only [sumF]; omega

theorem sumF_padK (xs : List Int) (n j : Nat) : sumF (fOf xs n) (n + j) = sumF (getK xs) n := by
  induction j with
  | zero =>
    have : ∀ k, k ≤ n → sumF (fOf xs n) k = sumF (getK xs) k := by
      intro k hk
      induction k with
      | zero => rfl
      | succ k ih => simp only [sumF]; rw [ih (by omega)]; unfold fOf getK; rw [if_pos (by omega)]
    exact this n (Nat.le_refl _)
  | succ j ih => show sumF (fOf xs n) (n + j) + fOf xs n (n + j) = _; rw [ih]; unfold fOf; rw [if_neg (by omega)]; omega

def totK (p : Int) (xs : List Int) : Int := if goodB p xs then sumF (getK xs) xs.length else 0

def TotKEnd (p : Int) (xs : List Int) (w : World) (e : Ending) (w' : World) : Prop :=
  e = .returned (.tuple #[.int .i64 (totK p xs), .bool (goodB p xs)]) ∧ Below w.heap.size w w'

theorem totKEnd_no {p : Int} {xs : List Int} {w w' : World} (h : goodB p xs = false) (hb : Below w.heap.size w w') : TotKEnd p xs w (.returned (.tuple #[.int .i64 0, .bool false])) w' := by
  refine ⟨?_, hb⟩; unfold totK; rw [h]; rfl

theorem totKEnd_yes {p : Int} {xs : List Int} {w w' : World} {s : Int} (h : goodB p xs = true) (hs : sumF (getK xs) xs.length = s) (hb : Below w.heap.size w w') : TotKEnd p xs w (.returned (.tuple #[.int .i64 s, .bool true])) w' := by
  refine ⟨?_, hb⟩; unfold totK; rw [h, ← hs]; rfl

theorem Try.size5k : (Try.prog.info? 5).map (·.size) = some 1 := by kernel_rfl

theorem run_index_tokK (f : Nat → Int) (k : Nat) (hk : k < 16) (w : World) : (Instr.index 74 (.agg (tokF f)) (.int .i64 k)).run Try.prog w = .ok (.int .u8 (f k)) w := by
  have h := tokF_at f k hk
  have h1 : (0 : Int) ≤ (k : Int) ∧ (k : Int) < 16 := by omega
  obtain ⟨i, hi, hs⟩ := Option.map_eq_some_iff.1 Try.size5k
  simp [Instr.index, run_underlying Try.underlying74, asIntOf, h1, part, isAgg, run_underlying Try.underlying5, sizeOf, typeInfo, hi, hs, h, go_sem]
  omega

set_option maxHeartbeats 1000000 in
theorem totalK_any (p : Int) (a : Option Addr) (n ca : Nat) (xs : List Int) (w : World) (ha : Row w a n xs) (hn : n ≤ 1048576) :
    Calls Try.prog 30 #[.int .i64 p, .slice a n ca] w fun e w' => TotKEnd p xs w e w' := by
  have ht := tokens_any p a n ca xs w ha hn
  by_cases hg : goodB p xs = true
  · have hp := good_partsK hg
    have hl := ha.1
    have HG := hide hg
    have HL := hide hl
    have hsm := small_fOfK hp.1 n
    have hn16 : n ≤ 16 := by omega
    have HS := hide (show sumF (fOf xs n) 16 = sumF (getK xs) n from by have := sumF_padK xs n (16 - n); rwa [show n + (16 - n) = 16 by omega] at this)
    rw [hg] at ht
    have HT := hide ht
    clear ht ha hg hp hl hn
    go_enter Try.func30, Try.ntmps30
    go_wp2_with fail
    refine HT.out.mono ?_
    rintro e w1 ⟨m, rfl, hm, hb1⟩
    obtain rfl : m = n := hm.out rfl
    have hg0 := heap_alloc_new w1 (.cells #[.int .u8 0, .int .u8 0, .int .u8 0, .int .u8 0, .int .u8 0, .int .u8 0, .int .u8 0, .int .u8 0, .int .u8 0, .int .u8 0, .int .u8 0, .int .u8 0, .int .u8 0, .int .u8 0, .int .u8 0, .int .u8 0] 74)
    have hg1 : ((w1.alloc (.cells #[.int .u8 0, .int .u8 0, .int .u8 0, .int .u8 0, .int .u8 0, .int .u8 0, .int .u8 0, .int .u8 0, .int .u8 0, .int .u8 0, .int .u8 0, .int .u8 0, .int .u8 0, .int .u8 0, .int .u8 0, .int .u8 0] 74)).setRow w1.heap.size (packOf xs m)).heap[w1.heap.size]? = some (.cells (packOf xs m) 74 (0, 0)) := by
      simp only [World.setRow, Array.getElem?_modify]; rw [if_pos trivial, hg0]; rfl
    have hbb := below_setRow (hb1.alloc hb1.size (.cells #[.int .u8 0, .int .u8 0, .int .u8 0, .int .u8 0, .int .u8 0, .int .u8 0, .int .u8 0, .int .u8 0, .int .u8 0, .int .u8 0, .int .u8 0, .int .u8 0, .int .u8 0, .int .u8 0, .int .u8 0, .int .u8 0] 74)) _ hb1.size (packOf xs m)
    go_wp2_with (first
      | refine wpList_store_row rfl 74 _ _ rfl _ _ rfl rfl 74 _ hg0 (by rw [packOf_size]; exact Try.size74) (by rw [packOf_size]; rfl) (packOf_one _ _) ?_
      | refine wpList_load_row rfl 74 _ rfl _ rfl 74 (packOf xs m) (0, 0) _ hg1 Try.underlying74 rfl (by rw [packOf_size]; exact Try.size74) ?_)
    clear hg0 hg1 HT
    go_loop [8, 20] (fun s i => ∃ k : Nat, k ≤ 16 ∧ i = .int .i64 k ∧ s = .int .i64 (sumF (fOf xs m) k)) (fun _ i => 16 - (intOf i).toNat)
    case atStart => exact ⟨0, Nat.zero_le _, rfl, rfl⟩
    case round =>
      obtain ⟨k, hk, rfl, rfl⟩ := hrel
      by_cases hlt : k < 16
      · have hix : ∀ w, (Instr.index 74 (.agg (packOf xs m)) (.int .i64 k)).run Try.prog w = .ok (.int .u8 (fOf xs m k)) w := fun w => run_index_tokK (fOf xs m) k hlt w
        have hb := sumF_leK hsm k
        have hb2 := hsm k
        have HE : Hid (sumF (fOf xs m) (k + 1) = sumF (fOf xs m) k + fOf xs m k) := rfl
        clear hsm
        obtain ⟨s, hsq⟩ : ∃ s, Hid (sumF (fOf xs m) k = s) := ⟨_, rfl⟩
        obtain ⟨x, hxq⟩ : ∃ x, Hid (fOf xs m k = x) := ⟨_, rfl⟩
        rw [hsq.out] at hb ⊢
        rw [hxq.out] at hb2 hix
        go_wp2
        go_round
        case rel => exact ⟨k + 1, by omega, by go_num, by rw [HE.out, hsq.out, hxq.out]⟩
        case measure => simp [intOf]; omega
      · have hk' : k = 16 := by omega
        subst hk'
        have HY := hide (totKEnd_yes (w := w) (s := sumF (fOf xs m) 16) HG.out (by rw [HS.out, HL.out]) hbb)
        clear hsm hbb hb1
        go_wp2
        go_ret2
        exact HY.out
  · have hg' : goodB p xs = false := by simpa using hg
    rw [hg'] at ht
    have HT := hide ht
    have HG := hide hg'
    clear ht ha hg hg' hn
    go_enter Try.func30, Try.ntmps30
    go_wp2_with (first
      | (go_at_call 85; refine HT.out.mono ?_; rintro e w1 ⟨m, rfl, hm, hb1⟩; have hg0 := heap_alloc_new w1 (.cells #[.int .u8 0, .int .u8 0, .int .u8 0, .int .u8 0, .int .u8 0, .int .u8 0, .int .u8 0, .int .u8 0, .int .u8 0, .int .u8 0, .int .u8 0, .int .u8 0, .int .u8 0, .int .u8 0, .int .u8 0, .int .u8 0] 74))
      | refine wpList_store_row rfl 74 _ _ rfl _ _ rfl rfl 74 _ (by assumption) (by rw [packOf_size]; exact Try.size74) (by rw [packOf_size]; rfl) (packOf_one _ _) ?_)
    go_ret2
    exact totKEnd_no HG.out (below_setRow (hb1.alloc hb1.size _) _ hb1.size _)

end Go.Proofs.Ytajcmamapmeglaa


/- What the cursor's mark and the Draw functions of chapter 1 answer: some number of places in 0..17 and some lists in new memory, of at most eighteen numbers, whatever the bytes; nothing that was there is written. -/
namespace Go.Proofs.Ytajcmamapmeglaa
open Go.RowKit

theorem ownsRow_only {w w' : World} {B bc : Nat} {v : Value} {n : Nat} {l : List Value} (h : w.ownsRow B 3 1 v n l) (ho : OnlyC bc w w') (hb : bc < B) : w'.ownsRow B 3 1 v n l := by
  refine ⟨h.1, ?_⟩
  rcases h.2 with h0 | ⟨g, cap, cur, hv, hB, hh, r⟩
  · exact .inl h0
  · exact .inr ⟨g, cap, cur, hv, hB, (ho.block g (by omega)).trans hh, r⟩

/-- What holds while a mark is drawn: w ahead of the call, v now; k numbers have been laid into o. -/
structure MarkSt (w v : World) (bc : Nat) (ca : Option Addr) (cn cc p : Nat) (bs : List Int) (o : Value) (k : Nat) : Prop where
  own : ∃ xs : List Int, v.ownsRow w.heap.size 3 1 o k (xs.map (Value.int .i64))
  cur : Cur v bc ca cn cc p
  bytes : RowB v ca cn bs
  kept : Kept bc w.heap.size w v

theorem MarkSt.only {w v v' : World} {bc : Nat} {ca : Option Addr} {cn cc p p' : Nat} {bs : List Int} {o : Value} {k : Nat} (h : MarkSt w v bc ca cn cc p bs o k) (ho : OnlyC bc v v') (hc : Cur v' bc ca cn cc p') (hap : Apart ca cn bc) (hb : bc < w.heap.size) :
    MarkSt w v' bc ca cn cc p' bs o k := by
  obtain ⟨xs, hx⟩ := h.own
  exact ⟨⟨xs, ownsRow_only hx ho hb⟩, hc, h.bytes.keep ho hap, h.kept.trans (Kept.of_only ho)⟩

theorem MarkSt.alloc {w v : World} {bc : Nat} {ca : Option Addr} {cn cc p : Nat} {bs : List Int} {o : Value} {k : Nat} (h : MarkSt w v bc ca cn cc p bs o k) (ob : Obj) (hap : Apart ca cn bc) :
    MarkSt w (v.alloc ob) bc ca cn cc p bs o k := by
  obtain ⟨xs, hx⟩ := h.own
  have hb := (Below.refl v.heap.size v).alloc (Nat.le_refl _) ob
  exact ⟨⟨xs, hx.alloc ob⟩, h.cur.below hb h.cur.lt, h.bytes.kept (Kept.of_below hb) hap, h.kept.trans ((Kept.of_below hb).mono h.kept.size)⟩

theorem MarkSt.append {w v v' : World} {bc : Nat} {ca : Option Addr} {cn cc p : Nat} {bs : List Int} {o o' : Value} {k : Nat} {xs : List Int} {x : Int} (h : MarkSt w v bc ca cn cc p bs o k) (hx : v.ownsRow w.heap.size 3 1 o k (xs.map (Value.int .i64)))
    (hn : v'.ownsRow w.heap.size 3 1 o' (k + 1) (xs.map (Value.int .i64) ++ [.int .i64 x])) (hg : v.grownBy v' o.ownBlock) (hb : bc < w.heap.size) (hfar : 0 < cn → ∀ y, ca = some y → y.block < w.heap.size) :
    MarkSt w v' bc ca cn cc p bs o' (k + 1) := by
  have hbl : Below w.heap.size v v' := by
    refine (Below.refl w.heap.size v).grown hg h.kept.size fun j hj => ?_
    exact (hx.lt j hj).1
  refine ⟨⟨xs ++ [x], by rw [List.map_append]; exact hn⟩, h.cur.below hbl hb, ?_, h.kept.trans (Kept.of_below hbl)⟩
  refine ⟨h.bytes.1, h.bytes.2.1, ?_⟩
  rcases h.bytes.2.2 with h0 | ⟨b, off, e, hl, hc⟩
  · exact .inl h0
  · exact .inr ⟨b, off, e, Nat.lt_of_lt_of_le hl hbl.size, fun i hi => (World.cell?_of_block (hbl.block b (hfar (by omega) _ e))).trans (hc i hi)⟩

/-- How mark ends. -/
def MarkEnd (bc : Nat) (ca : Option Addr) (cn cc p : Nat) (bs : List Int) (w : World) (e : Ending) (w' : World) : Prop :=
  ∃ a n c xs p', e = .returned (.slice a n c) ∧ n ≤ 18 ∧ p' ≤ p + 60 ∧ Row w' a n xs ∧ Apart a n bc ∧ Cur w' bc ca cn cc p' ∧ RowB w' ca cn bs ∧ Kept bc w.heap.size w w'

theorem ownsRow_row' {B : Nat} {w : World} {v : Value} {n : Nat} {l : List Int} (hown : w.ownsRow B 3 1 v n (l.map (Value.int .i64))) : ∃ a c, v = .slice a n c ∧ Row w a n l := by
  have hl : l.length = n := by have := hown.1; simpa using this
  rcases hown.2 with ⟨rfl, rfl⟩ | ⟨g, cap, cur, rfl, hb, hh, hnc, _, hsz, ht⟩
  · exact ⟨none, 0, rfl, hl, .inl rfl⟩
  · refine ⟨_, cap, rfl, hl, .inr ⟨g, 0, rfl, (Array.getElem?_eq_some_iff.mp hh).1, fun i hi => ?_⟩⟩
    rw [cell_of_row w g (0 + i) _ _ _ hh, Nat.zero_add]
    have e1 : (cur.toList.take (n * 1))[i]? = some (.int .i64 (l.getD i 0)) := by
      rw [ht]; simp [List.getElem?_map, List.getElem?_eq_getElem (show i < l.length by omega)]
    rw [List.getElem?_take_of_lt (by omega)] at e1
    simpa using e1

theorem MarkSt.done {w v : World} {bc : Nat} {ca : Option Addr} {cn cc p q : Nat} {bs : List Int} {o : Value} {k : Nat} (h : MarkSt w v bc ca cn cc q bs o k) (hk : k ≤ 18) (hq : q ≤ p + 60) (hb : bc < w.heap.size) : MarkEnd bc ca cn cc p bs w (.returned o) v := by
  obtain ⟨xs, hx⟩ := h.own
  have hlt := hx.lt
  obtain ⟨a, c, rfl, hr⟩ := ownsRow_row' hx
  refine ⟨a, k, c, xs, q, rfl, hk, hq, hr, fun _ x hx => ?_, h.cur, h.bytes, h.kept⟩
  subst hx
  have := (hlt x.block rfl).1
  omega

/-- .. and the list lies in new memory. -/
def MarkEndW (bc : Nat) (ca : Option Addr) (cn cc p : Nat) (bs : List Int) (w : World) (e : Ending) (w' : World) : Prop :=
  ∃ a n c xs p', e = .returned (.slice a n c) ∧ n ≤ 18 ∧ p' ≤ p + 60 ∧ Row w' a n xs ∧ (0 < n → ∀ x, a = some x → w.heap.size ≤ x.block) ∧ Cur w' bc ca cn cc p' ∧ RowB w' ca cn bs ∧ Kept bc w.heap.size w w'

theorem MarkSt.doneW {w v : World} {bc : Nat} {ca : Option Addr} {cn cc p q : Nat} {bs : List Int} {o : Value} {k : Nat} (h : MarkSt w v bc ca cn cc q bs o k) (hk : k ≤ 18) (hq : q ≤ p + 60) (_hb : bc < w.heap.size) : MarkEndW bc ca cn cc p bs w (.returned o) v := by
  obtain ⟨xs, hx⟩ := h.own
  have hlt := hx.lt
  obtain ⟨a, c, rfl, hr⟩ := ownsRow_row' hx
  refine ⟨a, k, c, xs, q, rfl, hk, hq, hr, fun _ x hx => ?_, h.cur, h.bytes, h.kept⟩
  subst hx
  exact (hlt x.block rfl).1

/-- How a function ends that draws a number of places and a list. -/
def DrawEnd1 (w : World) (e : Ending) (w' : World) : Prop :=
  ∃ (p : Int) (a : Option Addr) (n c : Nat) (xs : List Int), e = .returned (.tuple #[.int .i64 p, .slice a n c]) ∧ n ≤ 18 ∧ Row w' a n xs ∧ Below w.heap.size w w'

/-- .. and two lists. -/
def DrawEnd2 (w : World) (e : Ending) (w' : World) : Prop :=
  ∃ (p : Int) (a : Option Addr) (n c : Nat) (xs : List Int) (b : Option Addr) (m d : Nat) (ys : List Int), e = .returned (.tuple #[.int .i64 p, .slice a n c, .slice b m d]) ∧ n ≤ 18 ∧ m ≤ 18 ∧ Row w' a n xs ∧ Row w' b m ys ∧ Below w.heap.size w w'

theorem RowB.below {w w' : World} {a : Option Addr} {n : Nat} {xs : List Int} (h : RowB w a n xs) (hb : Below w.heap.size w w') : RowB w' a n xs := by
  refine ⟨h.1, h.2.1, ?_⟩
  rcases h.2.2 with h0 | ⟨b, off, e, hl, hc⟩
  · exact .inl h0
  · exact .inr ⟨b, off, e, Nat.lt_of_lt_of_le hl hb.size, fun i hi => (hb.cell (p := ⟨b, off + i, none⟩) hl).trans (hc i hi)⟩

theorem RowB.far {w : World} {ca : Option Addr} {cn : Nat} {bs : List Int} (h : RowB w ca cn bs) (h0 : 0 < cn) (y : Addr) (hy : ca = some y) : y.block < w.heap.size := by
  rcases h.2.2 with h1 | ⟨b, off, e, hl, _⟩
  · omega
  · rw [e] at hy; obtain rfl := Option.some.inj hy; exact hl



end Go.Proofs.Ytajcmamapmeglaa


/- l1Put: a number put to its place in a list, once; the list that is answered is the one that came, or a new one. -/
namespace Go.Proofs.Ytajcmamapmeglaa
open Go.RowKit
set_option maxRecDepth 10000

/-- append, whatever is appended: nil, empty or not. -/
theorem wpList_append_any {P : Program} (w : World) {ops : Array Oper} {rest : List Oper} {o : Oper} {a : Act} {Q : Exit → Act → World → Prop} (hgd : o.guard = none) (s x : Operand) (t : TypeId)
    (ho : o.op = .call { callee := .builtin .append, args := #[s, x], argTypes := #[t, t] })
    (base : Nat) (e : TypeId) (i : TypeInfo) (z : Value) (size bytes : Nat) (ht : P.underlying t = some (.slice e)) (hi : P.info? e = some i) (hz : i.zero = some z)
    (hsize : i.size = size) (hby : i.bytes = bytes) (hzs : z.cells.size = size) (hsz : 0 < size)
    (v : Value) (n : Nat) (xs : List Value) (hs : a.eval s = v) (hown : w.ownsRow base e size v n xs)
    (ao : Option Addr) (m c : Nat) (news : List Value) (hx : a.eval x = .slice ao m c) (hl : news.length = m * size) (hnone : ao = none → m = 0 ∧ c = 0)
    (hnews : ∀ ad, ao = some ad → ∀ j u, news[j]? = some u → w.cell? (ad.add j) = some u) (h1 : ∀ u ∈ news, u.oneCell' = true)
    (h63 : n + m ≤ maxLen) (hbytes : (n + m) * bytes ≤ 140737488355328) (hbase : base ≤ w.heap.size)
    (h : ∀ v' w', w'.ownsRow base e size v' (n + m) (xs ++ news) → w.grownBy w' v.ownBlock → wpList P ops Q rest (a.put o.dst v') w') : wpList P ops Q (o :: rest) a w := by
  cases ao with
  | some ad => exact wpList_append_own w hgd s x t ho base e i z size bytes ht hi hz hsize hby hzs hsz v n xs hs hown ad m c news hx hl (hnews ad rfl) h1 h63 hbytes hbase fun v' w' r1 r2 _ => h v' w' r1 r2
  | none =>
    obtain ⟨rfl, rfl⟩ := hnone rfl
    have hnews : news = [] := List.eq_nil_of_length_eq_zero (by simpa using hl)
    subst hnews
    refine wpList_plain hgd fun K hK' => ?_
    have hrun := run_append_owned_none (P := P) w base t o.type e i size ht hi _ n xs hown
    unfold Oper.wp
    simp [execOp, ho, resolve, invoke, builtin, hs, hx, hrun, Result.andThen]
    exact hK' _ _ (by simpa using h v w (by simpa using hown) (World.grownBy.refl _ _))

/-- How l1Put ends. -/
def PutEnd (n b : Nat) (w : World) (e : Ending) (w' : World) : Prop :=
  ∃ g n' c' ys, e = .returned (.slice (some ⟨g, 0, none⟩) n' c') ∧ 1 ≤ n' ∧ n' ≤ n + 1 ∧ n' ≤ c' ∧ c' ≤ maxLen ∧ Row w' (some ⟨g, 0, none⟩) n' ys ∧ (g = b ∨ w.heap.size ≤ g) ∧ Below w.heap.size w w'

theorem cells_upto {w : World} {a : Option Addr} {l i : Nat} {A : List Int} (h : Row w a l A) (hi : i ≤ l) : ∀ ad, a = some ad → ∀ t u, ((A.take i).map (Value.int .i64))[t]? = some u → w.cell? (ad.add t) = some u := by
  intro ad had t u hu
  have hA := h.1
  have ht : t < i := by
    have := (List.getElem?_eq_some_iff.1 hu).1
    simp at this; omega
  rcases h.2 with h0 | ⟨b, off, e, hl, hc⟩
  · omega
  · rw [e] at had
    obtain rfl := Option.some.inj had
    rw [Addr.add_mid, hc t (by omega), ← hu]
    simp [ht, show t < A.length by omega]

theorem cells_behind {w : World} {a : Option Addr} {l i : Nat} {A : List Int} (h : Row w a l A) (hi : i < l) : ∀ b off, a = some ⟨b, off, none⟩ → ∀ t u, ((A.drop i).map (Value.int .i64))[t]? = some u → w.cell? ((⟨b, off + i, none⟩ : Addr).add t) = some u := by
  intro b off had t u hu
  have hA := h.1
  have ht : t < l - i := by
    have := (List.getElem?_eq_some_iff.1 hu).1
    simp at this; omega
  rcases h.2 with h0 | ⟨b', off', e, hl, hc⟩
  · omega
  · rw [e] at had
    obtain ⟨rfl, rfl⟩ : b' = b ∧ off' = off := by simpa using had
    rw [Addr.add_mid, Nat.add_assoc, hc (i + t) (by omega), ← hu]
    simp [show i + t < A.length by omega]

theorem ownsRow_row2 {B : Nat} {w : World} {v : Value} {n : Nat} {l : List Int} (hown : w.ownsRow B 3 1 v n (l.map (Value.int .i64))) : ∃ a c, v = .slice a n c ∧ Row w a n l := by
  have hl : l.length = n := by have := hown.1; simpa using this
  rcases hown.2 with ⟨rfl, rfl⟩ | ⟨g, cap, cur, rfl, hb, hh, hnc, _, hsz, ht⟩
  · exact ⟨none, 0, rfl, hl, .inl rfl⟩
  · refine ⟨_, cap, rfl, hl, .inr ⟨g, 0, rfl, (Array.getElem?_eq_some_iff.mp hh).1, fun i hi => ?_⟩⟩
    rw [cell_of_row w g (0 + i) _ _ _ hh, Nat.zero_add]
    have e1 : (cur.toList.take (n * 1))[i]? = some (.int .i64 (l.getD i 0)) := by
      rw [ht]; simp [List.getElem?_map, List.getElem?_eq_getElem (show i < l.length by omega)]
    rw [List.getElem?_take_of_lt (by omega)] at e1
    simpa using e1

theorem putEnd_own {n b m : Nat} {w v : World} {u : Value} {ys : List Int} (hb : Below w.heap.size w v) (hown : v.ownsRow w.heap.size 3 1 u m (ys.map (Value.int .i64))) (hm : 1 ≤ m) (hmn : m ≤ n + 1) : PutEnd n b w (.returned u) v := by
  rcases hown.2 with ⟨_, h0⟩ | ⟨g, cap, cur, rfl, hbg, hh, hnc, hcm, hsz, ht⟩
  · omega
  · obtain ⟨a', c', e, hr⟩ := ownsRow_row2 hown
    obtain ⟨rfl, rfl⟩ : a' = some ⟨g, 0, none⟩ ∧ c' = cap := by simpa [eq_comm] using e
    exact ⟨g, m, _, ys, rfl, hm, hmn, hnc, hcm, hr, .inr hbg, hb⟩

/-- What is there while l1Put builds its list. -/
structure PutSt (w v : World) (u : Value) (m : Nat) (ys : List Int) : Prop where
  own : v.ownsRow w.heap.size 3 1 u m (ys.map (Value.int .i64))
  bel : Below w.heap.size w v

theorem PutSt.first (w : World) : PutSt w (w.alloc (.cells #[] 3)) (.slice (some ⟨w.heap.size, 0, none⟩) 0 0) 0 [] :=
  ⟨⟨rfl, .inr ⟨w.heap.size, 0, #[], rfl, Nat.le_refl _, heap_alloc_new _ _, Nat.le_refl _, Nat.zero_le _, rfl, rfl⟩⟩, below_al w _⟩
theorem PutSt.alloc {w v : World} {u : Value} {m : Nat} {ys : List Int} (h : PutSt w v u m ys) (o : Obj) : PutSt w (v.alloc o) u m ys := ⟨h.own.alloc o, h.bel.trans ((below_al v o).mono h.bel.size)⟩
theorem PutSt.step {w v v' : World} {u u' : Value} {m q : Nat} {ys zs : List Int} (h : PutSt w v u m ys) (r1 : v'.ownsRow w.heap.size 3 1 u' (m + q) (ys.map (Value.int .i64) ++ zs.map (Value.int .i64))) (r2 : v.grownBy v' u.ownBlock) : PutSt w v' u' (m + q) (ys ++ zs) :=
  ⟨by rw [List.map_append]; exact r1, h.bel.grown r2 h.bel.size fun k hk => (h.own.lt k hk).1⟩
theorem PutSt.done {w v : World} {u : Value} {m n b : Nat} {ys : List Int} (h : PutSt w v u m ys) (hm : 1 ≤ m) (hmn : m ≤ n + 1) : PutEnd n b w (.returned u) v := putEnd_own h.bel h.own hm hmn

set_option maxHeartbeats 1000000 in
theorem put_nil (x : Int) (w : World) :
    Calls Try.prog 144 #[.slice none 0 0, .int .i64 x] w fun e w' => PutEnd 0 w.heap.size w e w' := by
  obtain ⟨i0, hi, hz0, hz1, hz2⟩ := info_split Try.info3
  have P0 := hide (PutSt.first w)
  go_enter Try.func144, Try.ntmps144
  go_wp2_with fail
  go_loop [5] (fun i => i = .int .i64 0) (fun _ => 0)
  case atStart => rfl
  case round =>
    obtain rfl := hrel
    go_wp2_with (at_builtin; first
      | (refine wpList_append_any _ rfl (.tmp 34) (.tmp 37) 27 rfl w.heap.size 3 i0 (.int .i64 0) 1 8 Try.underlying27 hi hz0 hz1 hz2 rfl (by decide) (.slice (some ⟨w.heap.size, 0, none⟩) 0 0) 0 [] rfl P0.out.own none 0 0 [] rfl rfl (fun _ => ⟨rfl, rfl⟩) (fun ad h => by cases h) (by simp) (by unfold maxLen; omega) (by omega) (by simp) ?_; intro u1 W1 r1 r2; have P1 := hide ((P0.out.step (q := 0) (zs := []) r1 r2).alloc (.cells #[.int .i64 x] 3)); clear r1 r2)
      | (refine wpList_append_own _ rfl (.tmp 39) (.tmp 41) 27 rfl w.heap.size 3 i0 (.int .i64 0) 1 8 Try.underlying27 hi hz0 hz1 hz2 rfl (by decide) u1 _ _ rfl P1.out.own ⟨W1.heap.size, 0, none⟩ 1 1 [.int .i64 x] rfl rfl (cell_one_new _ _ _) (by simp [Value.oneCell']) (by unfold maxLen; omega) (by omega) (Nat.le_trans P1.out.bel.size (Nat.le_refl _)) ?_; intro u2 W2 r1 r2 _; have P2 := hide (P1.out.step (q := 1) (zs := [x]) r1 r2); clear r1 r2)
      | (refine wpList_append_any _ rfl (.tmp 43) (.tmp 46) 27 rfl w.heap.size 3 i0 (.int .i64 0) 1 8 Try.underlying27 hi hz0 hz1 hz2 rfl (by decide) u2 _ _ rfl P2.out.own none 0 0 [] rfl rfl (fun _ => ⟨rfl, rfl⟩) (fun ad h => by cases h) (by simp) (by unfold maxLen; omega) (by omega) P2.out.bel.size ?_; intro u3 W3 r1 r2; have P3 := hide (P2.out.step (q := 0) (zs := []) r1 r2); clear r1 r2))
    go_ret
    exact P3.out.done (by omega) (by omega)

set_option maxHeartbeats 2000000 in
theorem put_some (b n c : Nat) (xs : List Int) (x : Int) (w : World) (h : Row w (some ⟨b, 0, none⟩) n xs) (hn : n ≤ 1000) (hn1 : 1 ≤ n) (hc : n ≤ c) (hc2 : c ≤ maxLen) :
    Calls Try.prog 144 #[.slice (some ⟨b, 0, none⟩) n c, .int .i64 x] w fun e w' => PutEnd n b w e w' := by
  have HR := hide h
  have hlen := hide h.1
  unfold maxLen at hc2
  clear h
  obtain ⟨i0, hi, hz0, hz1, hz2⟩ := info_split Try.info3
  have P0 := hide (PutSt.first w)
  go_enter Try.func144, Try.ntmps144
  go_wp2_with fail
  go_loop [5] (fun i => ∃ k : Nat, k ≤ n ∧ i = .int .i64 k) (fun i => n - (intOf i).toNat)
  case atStart => exact ⟨0, Nat.zero_le _, rfl⟩
  case round =>
    obtain ⟨k, hk, rfl⟩ := hrel
    have HC1 := hide (fun W (hb : Below w.heap.size w W) => cells_upto (HR.out.below hb) hk _ rfl)
    by_cases hlt : k < n
    · obtain ⟨b1, o1, y, he, hl1, hc1, H1⟩ := HR.out.at hlt
      obtain ⟨rfl, rfl⟩ : b1 = b ∧ o1 = 0 := by simpa [eq_comm] using he
      rw [Nat.zero_add] at hc1
      have hki : (k : Int) < (n : Int) := by omega
      have hkn : k < n := hlt
      have hkc : ¬ c = k := by omega
      have HC2 := hide (fun W (hb : Below w.heap.size w W) => cells_behind (HR.out.below hb) hlt b1 0 rfl)
      rw [Nat.zero_add] at HC2
      clear he hlt
      by_cases hy : y < x
      · go_wp2_with fail
        go_round
        case rel => exact ⟨k + 1, by omega, by go_num⟩
        case measure => simp [intOf]; omega
      · by_cases hy2 : y = x
        · go_wp2_with fail
          go_ret
          exact ⟨b1, n, c, xs, rfl, hn1, by omega, hc, by unfold maxLen; omega, HR.out, .inl rfl, Below.refl _ _⟩
        · go_wp2_with (at_builtin; first
            | (refine wpList_append_any _ rfl (.tmp 34) (.tmp 37) 27 rfl w.heap.size 3 i0 (.int .i64 0) 1 8 Try.underlying27 hi hz0 hz1 hz2 rfl (by decide) (.slice (some ⟨w.heap.size, 0, none⟩) 0 0) 0 [] rfl P0.out.own (some ⟨b1, 0, none⟩) k c ((xs.take k).map (Value.int .i64)) rfl (by have := hlen.out; simp; omega) (fun h => by cases h) (fun ad h => by cases h; exact HC1.out _ P0.out.bel) (ints_oneCell _ _) (by unfold maxLen; omega) (by omega) (by simp) ?_; intro u1 W1 r1 r2; have P1 := hide ((P0.out.step (q := k) (zs := xs.take k) r1 r2).alloc (.cells #[.int .i64 x] 3)); clear r1 r2)
            | (refine wpList_append_own _ rfl (.tmp 39) (.tmp 41) 27 rfl w.heap.size 3 i0 (.int .i64 0) 1 8 Try.underlying27 hi hz0 hz1 hz2 rfl (by decide) u1 _ _ rfl P1.out.own ⟨W1.heap.size, 0, none⟩ 1 1 [.int .i64 x] rfl rfl (cell_one_new _ _ _) (by simp [Value.oneCell']) (by unfold maxLen; omega) (by omega) P1.out.bel.size ?_; intro u2 W2 r1 r2 _; have P2 := hide (P1.out.step (q := 1) (zs := [x]) r1 r2); clear r1 r2)
            | (refine wpList_append_own _ rfl (.tmp 43) (.tmp 46) 27 rfl w.heap.size 3 i0 (.int .i64 0) 1 8 Try.underlying27 hi hz0 hz1 hz2 rfl (by decide) u2 _ _ rfl P2.out.own ⟨b1, k, none⟩ (n - k) (c - k) ((xs.drop k).map (Value.int .i64)) rfl (by have := hlen.out; simp; omega) (HC2.out _ P2.out.bel) (ints_oneCell _ _) (by unfold maxLen; omega) (by omega) P2.out.bel.size ?_; intro u3 W3 r1 r2 _; have P3 := hide (P2.out.step (q := n - k) (zs := xs.drop k) r1 r2); clear r1 r2))
          go_ret
          exact P3.out.done (by omega) (by omega)
    · have hk' : k = n := by omega
      have hki : ¬ (k : Int) < (n : Int) := by omega
      subst hk'
      go_wp2_with (at_builtin; first
        | (refine wpList_append_any _ rfl (.tmp 34) (.tmp 37) 27 rfl w.heap.size 3 i0 (.int .i64 0) 1 8 Try.underlying27 hi hz0 hz1 hz2 rfl (by decide) (.slice (some ⟨w.heap.size, 0, none⟩) 0 0) 0 [] rfl P0.out.own (some ⟨b, 0, none⟩) k c ((xs.take k).map (Value.int .i64)) rfl (by have := hlen.out; simp; omega) (fun h => by cases h) (fun ad h => by cases h; exact HC1.out _ P0.out.bel) (ints_oneCell _ _) (by unfold maxLen; omega) (by omega) (by simp) ?_; intro u1 W1 r1 r2; have P1 := hide ((P0.out.step (q := k) (zs := xs.take k) r1 r2).alloc (.cells #[.int .i64 x] 3)); clear r1 r2)
        | (refine wpList_append_own _ rfl (.tmp 39) (.tmp 41) 27 rfl w.heap.size 3 i0 (.int .i64 0) 1 8 Try.underlying27 hi hz0 hz1 hz2 rfl (by decide) u1 _ _ rfl P1.out.own ⟨W1.heap.size, 0, none⟩ 1 1 [.int .i64 x] rfl rfl (cell_one_new _ _ _) (by simp [Value.oneCell']) (by unfold maxLen; omega) (by omega) P1.out.bel.size ?_; intro u2 W2 r1 r2 _; have P2 := hide (P1.out.step (q := 1) (zs := [x]) r1 r2); clear r1 r2)
        | (refine wpList_append_any _ rfl (.tmp 43) (.tmp 46) 27 rfl w.heap.size 3 i0 (.int .i64 0) 1 8 Try.underlying27 hi hz0 hz1 hz2 rfl (by decide) u2 _ _ rfl P2.out.own _ _ _ [] rfl (by simp) (by intro h; first | cases h | (split at h <;> cases h)) (by intro ad _ j u hu; simp at hu) (by simp) (by unfold maxLen; omega) (by omega) P2.out.bel.size ?_; intro u3 W3 r1 r2; have P3 := hide (P2.out.step (zs := []) r1 r2); clear r1 r2))
      all_goals go_ret
      all_goals exact P3.out.done (by omega) (by omega)
end Go.Proofs.Ytajcmamapmeglaa


/- someOf: some rising numbers in new memory, whatever the bytes; nothing that was there is written but the cursor. -/
namespace Go.Proofs.Ytajcmamapmeglaa
open Go.RowKit
set_option maxRecDepth 10000

/-- A list that is nil, or lies from the head of a block at B or behind. -/
def NewL (B : Nat) (w : World) (a : Option Addr) (n c : Nat) (xs : List Int) : Prop :=
  (a = none ∧ n = 0 ∧ c = 0 ∧ xs = []) ∨ ∃ g, a = some ⟨g, 0, none⟩ ∧ B ≤ g ∧ 1 ≤ n ∧ n ≤ c ∧ c ≤ maxLen ∧ Row w a n xs

theorem NewL.row {B : Nat} {w : World} {a : Option Addr} {n c : Nat} {xs : List Int} (h : NewL B w a n c xs) : Row w a n xs := by
  rcases h with ⟨rfl, rfl, rfl, rfl⟩ | ⟨g, _, _, _, _, _, hr⟩
  · exact ⟨rfl, .inl rfl⟩
  · exact hr

theorem NewL.keep {B : Nat} {w w' : World} {a : Option Addr} {n c : Nat} {xs : List Int} (h : NewL B w a n c xs) (hs : w.heap.size ≤ w'.heap.size) (hk : ∀ g, B ≤ g → g < w.heap.size → (∃ o, a = some o ∧ o.block = g) → w'.heap[g]? = w.heap[g]?) : NewL B w' a n c xs := by
  rcases h with h | ⟨g, rfl, hB, h1, h2, h3, hr⟩
  · exact .inl h
  · refine .inr ⟨g, rfl, hB, h1, h2, h3, hr.1, ?_⟩
    rcases hr.2 with h0 | ⟨b, off, e, hl, hc⟩
    · exact .inl h0
    · obtain ⟨rfl, rfl⟩ : b = g ∧ off = 0 := by simpa [eq_comm] using e
      exact .inr ⟨b, 0, rfl, by omega, fun i hi => (World.cell?_of_block (hk b hB hl ⟨_, rfl, rfl⟩)).trans (hc i hi)⟩

theorem NewL.kept {B bc C : Nat} {w w' : World} {a : Option Addr} {n c : Nat} {xs : List Int} (h : NewL B w a n c xs) (hk : Kept bc C w w') (hC : w.heap.size ≤ C) (hb : bc < B) : NewL B w' a n c xs :=
  h.keep hk.size fun g hg hl _ => hk.block g (by omega) (by omega)
theorem NewL.mono {B C : Nat} {w : World} {a : Option Addr} {n c : Nat} {xs : List Int} (h : NewL B w a n c xs) (hC : C ≤ B) : NewL C w a n c xs := by
  rcases h with h | ⟨g, e, hB, h1⟩
  · exact .inl h
  · exact .inr ⟨g, e, by omega, h1⟩

/-- What is there while someOf draws. -/
structure SomeSt (w v : World) (bc : Nat) (ca : Option Addr) (cn cc p : Nat) (bs : List Int) (u : Value) (m : Nat) : Prop where
  new : ∃ a n c xs, u = .slice a n c ∧ n ≤ m ∧ NewL w.heap.size v a n c xs
  cur : Cur v bc ca cn cc p
  bytes : RowB v ca cn bs
  kept : Kept bc w.heap.size w v

/-- How someOf ends. -/
def SomeEnd (bc : Nat) (ca : Option Addr) (cn cc p : Nat) (bs : List Int) (w : World) (e : Ending) (w' : World) : Prop :=
  ∃ a n c xs p', e = .returned (.slice a n c) ∧ n ≤ 2 ∧ NewL w.heap.size w' a n c xs ∧ p' ≤ p + 3 ∧ Cur w' bc ca cn cc p' ∧ RowB w' ca cn bs ∧ Kept bc w.heap.size w w'

theorem SomeSt.only {w v v' : World} {bc : Nat} {ca : Option Addr} {cn cc p p' : Nat} {bs : List Int} {u : Value} {m : Nat} (h : SomeSt w v bc ca cn cc p bs u m) (ho : OnlyC bc v v') (hc : Cur v' bc ca cn cc p') (hap : Apart ca cn bc) (hb : bc < w.heap.size) : SomeSt w v' bc ca cn cc p' bs u m := by
  obtain ⟨a, n, c, xs, e, hn, hl⟩ := h.new
  exact ⟨⟨a, n, c, xs, e, hn, hl.kept (Kept.of_only (B := v.heap.size) ho) (Nat.le_refl _) hb⟩, hc, h.bytes.keep ho hap, h.kept.trans (Kept.of_only ho)⟩

/-- A put. -/
theorem SomeSt.put {w v : World} {bc : Nat} {ca : Option Addr} {cn cc p : Nat} {bs : List Int} {u : Value} {m : Nat} (h : SomeSt w v bc ca cn cc p bs u m) (hm : m ≤ 100) (x : Int) (hap : Apart ca cn bc) :
    Calls Try.prog 144 #[u, .int .i64 x] v fun e v' => ∃ u', e = .returned u' ∧ SomeSt w v' bc ca cn cc p bs u' (m + 1) := by
  have hcl := h.cur.lt
  have fin : ∀ {n b : Nat} {e : Ending} {v' : World}, n ≤ m → w.heap.size ≤ b → PutEnd n b v e v' → ∃ u', e = .returned u' ∧ SomeSt w v' bc ca cn cc p bs u' (m + 1) := by
    rintro n b e v' hn hgb ⟨g, n', c', ys, rfl, h1, h2, h3, h4, h5, h6, h7⟩
    refine ⟨_, rfl, ⟨_, _, _, ys, rfl, by omega, .inr ⟨g, rfl, ?_, h1, h3, h4, h5⟩⟩, h.cur.below h7 hcl, h.bytes.kept (Kept.of_below h7) hap, h.kept.trans ((Kept.of_below h7).mono h.kept.size)⟩
    have := h.kept.size
    rcases h6 with rfl | h6
    · exact hgb
    · omega
  obtain ⟨a, n, c, xs, rfl, hn, hl⟩ := h.new
  rcases hl with ⟨rfl, rfl, rfl, rfl⟩ | ⟨g, rfl, hB, h1, h2, h3, hr⟩
  · exact (put_nil x v).mono fun e v' he => fin (Nat.zero_le _) h.kept.size he
  · exact (put_some g n c xs x v hr (by omega) h1 h2 h3).mono fun e v' he => fin hn hB he

theorem SomeSt.done {w v : World} {bc : Nat} {ca : Option Addr} {cn cc p q : Nat} {bs : List Int} {u : Value} {m : Nat} (h : SomeSt w v bc ca cn cc q bs u m) (hm : m ≤ 2) (hq : q ≤ p + 3) : SomeEnd bc ca cn cc p bs w (.returned u) v := by
  obtain ⟨a, n, c, xs, rfl, hn, hl⟩ := h.new
  exact ⟨a, n, c, xs, q, rfl, by omega, hl, hq, h.cur, h.bytes, h.kept⟩

set_option maxHeartbeats 1000000 in
theorem some_draw (pl lo : Nat) (bc : Nat) (ca : Option Addr) (cn cc p : Nat) (bs : List Int) (w : World) (h : Cur w bc ca cn cc p) (hr : RowB w ca cn bs) (hap : Apart ca cn bc) (hp : p ≤ 900000) (hn : cn ≤ 1048576) (hpl : 2 ≤ pl) (hpl2 : pl ≤ 200) (hlo : lo ≤ 1) :
    Calls Try.prog 110 #[.pointer (some ⟨bc, 0, none⟩), .int .i64 (pl : Int), .int .i64 (lo : Int), .int .i64 2] w fun e w' => SomeEnd bc ca cn cc p bs w e w' := by
  have hbc := h.lt
  have ST := hide (SomeSt.mk (w := w) (u := .slice none 0 0) (m := 0) ⟨none, 0, 0, [], rfl, Nat.le_refl _, .inl ⟨rfl, rfl, rfl, rfl⟩⟩ h hr (Kept.refl bc _ w))
  have HP := hide (pick_any (3 - lo) bc ca cn cc p bs w h hr (by omega) hn (by omega) (by omega))
  rw [show ((3 - lo : Nat) : Int) = 2 - (lo : Int) + 1 by omega] at HP
  clear h hr
  go_enter Try.func110, Try.ntmps110
  go_wp2_with fail
  refine HP.out.mono ?_
  rintro e v1 ⟨r, rfl, hr, hcur, ho⟩
  have S1 := hide (ST.out.only ho hcur hap hbc)
  clear hcur ho ST HP
  go_wp2_with fail
  go_loopw [9, 10] (fun u i wr => ∃ k q m : Nat, i = .int .i64 k ∧ k + m ≤ 2 ∧ q + k ≤ p + 3 ∧ Hid (SomeSt w wr bc ca cn cc q bs u m)) (fun _ i _ => (intOf i).toNat)
  case atStart => exact ⟨lo + r, p + 1, 0, by go_num, by omega, by omega, S1⟩
  case round =>
    obtain ⟨k, q, m, rfl, hkm, hq, S0⟩ := hrel
    clear S1
    by_cases hlt : 0 < k
    · have hi1 : (0 : Int) < (k : Int) := by omega
      go_wp2_with fail
      refine (pick_any pl bc ca cn cc q bs _ S0.out.cur S0.out.bytes (by omega) hn hpl hpl2).mono ?_
      rintro e v2 ⟨x, rfl, hx, hcur, ho⟩
      have S2 := hide (S0.out.only ho hcur hap hbc)
      clear hcur ho S0
      go_wp2_with fail
      refine (S2.out.put (by omega) _ hap).mono ?_
      rintro e v3 ⟨u', rfl, S3'⟩
      have S3 := hide S3'
      clear S3' S2
      go_wp2_with fail
      go_roundw
      case rel => exact ⟨k - 1, q + 1, m + 1, by go_num, by omega, by omega, S3⟩
      case measure => simp [intOf]; omega
    · have hk0 : k = 0 := by omega
      subst hk0
      go_wp2_with fail
      go_ret
      exact S0.out.done (by omega) (by omega)
end Go.Proofs.Ytajcmamapmeglaa


/- A net that is being drawn: its transitions in a row of their own, each list of at most two numbers, nil or in a block of its own. -/
namespace Go.Proofs.Ytajcmamapmeglaa
open Go.RowKit
set_option maxRecDepth 10000

theorem NewL.lt {B : Nat} {w : World} {a : Option Addr} {n c : Nat} {xs : List Int} (h : NewL B w a n c xs) {o : Addr} (ho : a = some o) : B ≤ o.block ∧ o.block < w.heap.size := by
  rcases h with ⟨e, _⟩ | ⟨g, e, hB, h1, _, _, hr⟩
  · rw [e] at ho; cases ho
  · rw [e] at ho
    obtain rfl := Option.some.inj ho
    rcases hr.2 with h0 | ⟨b, off, e2, hl, _⟩
    · omega
    · rw [e] at e2
      obtain ⟨rfl, rfl⟩ : g = b ∧ 0 = off := by simpa using e2
      exact ⟨hB, hl⟩

def TriC (B : Nat) (v : World) (u : Value) (cells : List Value) (j : Nat) : Prop :=
  ∃ a n c xs, cells[j]? = some (.slice a n c) ∧ n ≤ 2 ∧ NewL B v a n c xs ∧ ∀ o, a = some o → u.ownBlock ≠ some o.block

structure NetOwn (B : Nat) (v : World) (u : Value) (k : Nat) (cells : List Value) : Prop where
  own : v.ownsRow B 106 3 u k cells
  tris : ∀ j, j < 3 * k → TriC B v u cells j

theorem NetOwn.nil (B : Nat) (v : World) : NetOwn B v (.slice none 0 0) 0 [] := ⟨World.ownsRow_nil _ _ _ _, fun j hj => absurd hj (by omega)⟩

theorem NetOwn.moved {B : Nat} {v v' : World} {u : Value} {k : Nat} {cells : List Value} (h : NetOwn B v u k cells) (hs : v.heap.size ≤ v'.heap.size) (hk : ∀ q, B ≤ q → q < v.heap.size → v'.heap[q]? = v.heap[q]?) : NetOwn B v' u k cells := by
  refine ⟨⟨h.own.1, ?_⟩, fun j hj => ?_⟩
  · rcases h.own.2 with hn | ⟨g, cp, cur, e, hg, hh, r⟩
    · exact .inl hn
    · exact .inr ⟨g, cp, cur, e, hg, (hk g hg (Array.getElem?_eq_some_iff.mp hh).1).trans hh, r⟩
  · obtain ⟨a, n, c, xs, e, hn, hl, hd⟩ := h.tris j hj
    exact ⟨a, n, c, xs, e, hn, hl.keep hs fun g hg hlt _ => hk g hg hlt, hd⟩

theorem NetOwn.kept {B bc C : Nat} {v v' : World} {u : Value} {k : Nat} {cells : List Value} (h : NetOwn B v u k cells) (hk : Kept bc C v v') (hC : v.heap.size ≤ C) (hb : bc < B) : NetOwn B v' u k cells :=
  h.moved hk.size fun q hq hl => hk.block q (by omega) (by omega)
theorem NetOwn.low {B C : Nat} {v : World} {u : Value} {k : Nat} {cells : List Value} (h : NetOwn B v u k cells) (hC : C ≤ B) : NetOwn C v u k cells := by
  refine ⟨⟨h.own.1, ?_⟩, fun j hj => ?_⟩
  · rcases h.own.2 with hn | ⟨g, cp, cur, e, hg, r⟩
    · exact .inl hn
    · exact .inr ⟨g, cp, cur, e, by omega, r⟩
  · obtain ⟨a, n, c, xs, e, hn, hl, hd⟩ := h.tris j hj
    exact ⟨a, n, c, xs, e, hn, hl.mono hC, hd⟩

theorem NetOwn.append {B : Nat} {v W : World} {u : Value} {k : Nat} {cells : List Value} {g cp : Nat} {a0 a1 a2 : Option Addr} {n0 n1 n2 c0 c1 c2 : Nat} {x0 x1 x2 : List Int} (h : NetOwn B v u k cells)
    (h0 : NewL B v a0 n0 c0 x0) (h1 : NewL B v a1 n1 c1 x1) (h2 : NewL B v a2 n2 c2 x2) (m0 : n0 ≤ 2) (m1 : n1 ≤ 2) (m2 : n2 ≤ 2)
    (d0 : ∀ o, a0 = some o → u.ownBlock ≠ some o.block) (d1 : ∀ o, a1 = some o → u.ownBlock ≠ some o.block) (d2 : ∀ o, a2 = some o → u.ownBlock ≠ some o.block)
    (hown : W.ownsRow B 106 3 (.slice (some ⟨g, 0, none⟩) (k + 1) cp) (k + 1) (cells ++ [.slice a0 n0 c0, .slice a1 n1 c1, .slice a2 n2 c2])) (hgr : v.grownBy W u.ownBlock) (hl : u.ownBlock = some g ∨ g = v.heap.size) :
    NetOwn B W (.slice (some ⟨g, 0, none⟩) (k + 1) cp) (k + 1) (cells ++ [.slice a0 n0 c0, .slice a1 n1 c1, .slice a2 n2 c2]) := by
  have hcl : cells.length = 3 * k := by have := h.own.1; omega
  have key : ∀ {a : Option Addr} {n c : Nat} {xs : List Int}, NewL B v a n c xs → (∀ o, a = some o → u.ownBlock ≠ some o.block) → NewL B W a n c xs ∧ ∀ o, a = some o → (Value.slice (some ⟨g, 0, none⟩) (k + 1) cp).ownBlock ≠ some o.block := by
    intro a n c xs hn hd
    refine ⟨hn.keep hgr.size fun q hq hlt ⟨o, ho, hoq⟩ => hgr.block q hlt fun e => hd o ho (by rw [hoq]; exact e.symm), fun o ho e => ?_⟩
    have e' : g = o.block := by simpa [Value.ownBlock] using e
    have hlt := (hn.lt ho).2
    rcases hl with hl | hl
    · exact hd o ho (by rw [hl, e'])
    · omega
  refine ⟨hown, fun j hj => ?_⟩
  by_cases hlt : j < 3 * k
  · obtain ⟨a, n, c, xs, e, hn, hl', hd⟩ := h.tris j hlt
    obtain ⟨q1, q2⟩ := key hl' hd
    exact ⟨a, n, c, xs, by rw [List.getElem?_append_left (by omega)]; exact e, hn, q1, q2⟩
  · have hget : (cells ++ [.slice a0 n0 c0, .slice a1 n1 c1, .slice a2 n2 c2])[j]? = [Value.slice a0 n0 c0, .slice a1 n1 c1, .slice a2 n2 c2][j - 3 * k]? := by rw [List.getElem?_append_right (by omega), hcl]
    obtain hj0 | hj0 | hj0 : j - 3 * k = 0 ∨ j - 3 * k = 1 ∨ j - 3 * k = 2 := by omega
    · obtain ⟨q1, q2⟩ := key h0 d0
      exact ⟨_, _, _, _, by rw [hget, hj0]; rfl, m0, q1, q2⟩
    · obtain ⟨q1, q2⟩ := key h1 d1
      exact ⟨_, _, _, _, by rw [hget, hj0]; rfl, m1, q1, q2⟩
    · obtain ⟨q1, q2⟩ := key h2 d2
      exact ⟨_, _, _, _, by rw [hget, hj0]; rfl, m2, q1, q2⟩

theorem NetOwn.set {B : Nat} {v : World} {k : Nat} {cells : List Value} {g cp j : Nat} {a : Option Addr} {n c : Nat} {xs : List Int} (h : NetOwn B v (.slice (some ⟨g, 0, none⟩) k cp) k cells) (hj : j < 3 * k)
    (hn : NewL B v a n c xs) (hn2 : n ≤ 2) (hd : ∀ o, a = some o → o.block ≠ g) : NetOwn B (v.setCell ⟨g, j, none⟩ (.slice a n c)) (.slice (some ⟨g, 0, none⟩) k cp) k (cells.set j (.slice a n c)) := by
  have hcl : cells.length = 3 * k := by have := h.own.1; omega
  have hoth : ∀ q, q ≠ g → (v.setCell ⟨g, j, none⟩ (.slice a n c)).heap[q]? = v.heap[q]? := fun q hq => Below.heap_setCell _ _ _ _ hq
  have hsz : v.heap.size ≤ (v.setCell ⟨g, j, none⟩ (.slice a n c)).heap.size := by simp [World.setCell]
  refine ⟨⟨by simpa using h.own.1, ?_⟩, fun i hi => ?_⟩
  · rcases h.own.2 with ⟨e, _⟩ | ⟨g', cp', cur, e, hg, hh, r1, r2, r3, r4⟩
    · simp at e
    · obtain ⟨rfl, rfl⟩ : g = g' ∧ cp = cp' := by simpa using e
      refine .inr ⟨g, cp, _, rfl, hg, heap_setCell_same v g j cur _ _ hh, r1, r2, by simpa using r3, ?_⟩
      rw [← r4]
      simp [List.take_set]
  · obtain ⟨a', n', c', xs', e, hn', hl', hd'⟩ := h.tris i hi
    by_cases hij : i = j
    · subst hij
      exact ⟨a, n, c, xs, by rw [List.getElem?_set_self (by omega)], hn2, hn.keep hsz fun q _ _ ⟨o, ho, hoq⟩ => hoth q (by have := hd o ho; omega), fun o ho e => hd o ho (by simpa [Value.ownBlock, eq_comm] using e)⟩
    · exact ⟨a', n', c', xs', by rw [List.getElem?_set_ne (fun e => hij e.symm)]; exact e, hn', hl'.keep hsz fun q _ _ ⟨o, ho, hoq⟩ => hoth q (by have := hd' o ho; simp [Value.ownBlock] at this; omega), hd'⟩

theorem exists_list {P : Nat → List Int → Prop} (n : Nat) (h : ∀ j, j < n → ∃ x, P j x) : ∃ L : List (List Int), L.length = n ∧ ∀ j, j < n → P j (L.getD j []) := by
  induction n with
  | zero => exact ⟨[], rfl, fun j hj => absurd hj (by omega)⟩
  | succ n ih =>
    obtain ⟨L, hL, hP⟩ := ih fun j hj => h j (by omega)
    obtain ⟨x, hx⟩ := h n (by omega)
    refine ⟨L ++ [x], by simp [hL], fun j hj => ?_⟩
    by_cases hjn : j = n
    · subst hjn
      rw [List.getD_eq_getElem?_getD, List.getElem?_append_right (by omega), hL]
      simpa using hx
    · have := hP j (by omega)
      rw [List.getD_eq_getElem?_getD, List.getElem?_append_left (by omega), ← List.getD_eq_getElem?_getD]
      exact this

/-- A drawn net can be read. -/
theorem NetOwn.lists {B : Nat} {v : World} {u : Value} {k : Nat} {cells : List Value} (h : NetOwn B v u k cells) (hk : k ≤ 5) : ∃ a c L, u = .slice a k c ∧ Lists v a (3 * k) L ∧ sizeN k L ≤ 35 ∧ (∀ o, a = some o → B ≤ o.block) := by
  have hcl : cells.length = 3 * k := by have := h.own.1; omega
  obtain ⟨L, hL, hP⟩ := exists_list (P := fun j x => ∃ a n c, cells[j]? = some (.slice a n c) ∧ n ≤ 2 ∧ NewL B v a n c x) (3 * k) fun j hj => by
    obtain ⟨a, n, c, xs, e, hn, hl, _⟩ := h.tris j hj
    exact ⟨xs, a, n, c, e, hn, hl⟩
  have hsz : ∀ q, q ≤ 3 * k → sizeL (L.take q) ≤ 2 * q := by
    intro q
    induction q with
    | zero => intro _; simp [sizeL]
    | succ q ih =>
      intro hq
      rw [sizeL_take_succ L q (by omega)]
      obtain ⟨a, n, c, _, hn, hl⟩ := hP q (by omega)
      have := hl.row.1
      have := ih (by omega)
      omega
  have hs : sizeN k L ≤ 35 := by
    unfold sizeN
    have := hsz (3 * k) (Nat.le_refl _)
    rw [List.take_of_length_le (by omega)] at this
    omega
  rcases h.own.2 with ⟨e, h0⟩ | ⟨g, cp, cur, e, hg, hh, _, _, hsc, htk⟩
  · subst h0
    exact ⟨none, 0, L, e, ⟨hL, .inl rfl⟩, hs, fun o ho => by cases ho⟩
  · refine ⟨_, cp, L, e, ⟨hL, .inr ⟨g, 0, rfl, (Array.getElem?_eq_some_iff.mp hh).1, fun j hj => ?_⟩⟩, hs, fun o ho => by obtain rfl := Option.some.inj ho; exact hg⟩
    obtain ⟨a, n, c, e1, hn, hl⟩ := hP j hj
    refine ⟨a, n, c, ?_, by unfold maxLen; omega, hl.row⟩
    rw [cell_of_row v g (0 + j) cur _ _ hh, Nat.zero_add]
    have e2 : (cur.toList.take (k * 3))[j]? = cells[j]? := by rw [htk]
    rw [List.getElem?_take_of_lt (by omega), Array.getElem?_toList] at e2
    rw [e2, e1]
end Go.Proofs.Ytajcmamapmeglaa
