/- Contracts that the proof stands on, one behind the other. -/
import Derived.Test.YtdhnhpjcoeglmaaP8
import Derived.Deep.AppendLies
/- sameNet: two nets of the same lists. -/
namespace Go.Proofs.Ytdhnhpjcoeglmaa
open Go.RowKit
set_option maxRecDepth 10000

theorem tri_len {L : List (List Int)} {n j : Nat} (hs : sizeN n L ≤ 1048576) {x : List Int} (hx : L.getD j [] = x) : x.length ≤ 1048576 := by
  have := len_le L j
  unfold sizeN at hs
  rw [hx] at this
  omega

set_option maxHeartbeats 1000000 in
theorem sameNet_any (p : Int) (a d : Option Addr) (n c e : Nat) (L : List (List Int)) (w : World) (h : Lists w a (3 * n) L) (g : Lists w d (3 * n) L) (hs : sizeN n L ≤ 1048576) :
    Calls Try.prog 12 #[.agg #[.int .i64 p, .slice a n c], .agg #[.int .i64 p, .slice d n e]] w fun e w' => e = .returned (.bool true) ∧ Below w.heap.size w w' := by
  have hn : n ≤ 1048576 := by unfold sizeN at hs; omega
  have hne : ((n : Int) != (n : Int)) = false := by simp
  have hnp : (p != p) = false := by simp
  have hA := below_al w (.cells #[.int .i64 p, .slice a n c] 26)
  have hA2 := below_al (w.alloc (.cells #[.int .i64 p, .slice a n c] 26)) (.cells #[.int .i64 p, .slice d n e] 26)
  have HB := hide (hA.trans (hA2.mono hA.size))
  have H1 := hide (keep (heap_alloc_new w (.cells #[.int .i64 p, .slice a n c] 26)) hA2)
  have H2 : Hid (((w.alloc (.cells #[.int .i64 p, .slice a n c] 26)).alloc (.cells #[.int .i64 p, .slice d n e] 26)).heap[w.heap.size + 1]? = some (.cells #[.int .i64 p, .slice d n e] 26 (0, 0))) := by
    show (World.alloc _ _).heap[w.heap.size + 1]? = _
    have := heap_alloc_new (w.alloc (.cells #[.int .i64 p, .slice a n c] 26)) (.cells #[.int .i64 p, .slice d n e] 26)
    rw [show (w.alloc (.cells #[.int .i64 p, .slice a n c] 26)).heap.size = w.heap.size + 1 by simp] at this
    exact this
  have HL := hide (h.below HB.out)
  have HG := hide (g.below HB.out)
  have HS := hide hs
  clear h g hA hA2 hs
  go_enter Try.func12, Try.ntmps12
  go_wp2_with fail
  generalize (w.alloc (.cells #[.int .i64 p, .slice a n c] 26)).alloc (.cells #[.int .i64 p, .slice d n e] 26) = W0 at *
  go_loopw [25] (fun i wr => ∃ k : Nat, k ≤ n ∧ i = .int .i64 k ∧ Hid (Below W0.heap.size W0 wr)) (fun i _ => n - (intOf i).toNat)
  case atStart => exact ⟨0, Nat.zero_le _, rfl, Below.refl _ _⟩
  case round =>
    obtain ⟨k, hk, rfl, hbw⟩ := hrel
    clear hne hnp
    by_cases hlt : k < n
    rotate_left
    · have hk' : k = n := by omega
      subst hk'
      have HE := hide (HB.out.trans (hbw.out.mono HB.out.size))
      go_wp2_with fail
      go_ret
      exact ⟨rfl, HE.out⟩
    obtain ⟨b, off, s0, l0, q0, s1, l1, q1, s2, l2, q2, rfl, hbz, tri⟩ := (HL.out.below hbw.out).tri hlt
    obtain ⟨b', off', t0, m0, r0, t1, m1, r1, t2, m2, r2, rfl, hbz', tri'⟩ := (HG.out.below hbw.out).tri hlt
    have hx0 : wr.cell? ⟨b, off + k * 3, none⟩ = some (.slice s0 l0 q0) := tri.1 0 _ rfl
    have hx1 : wr.cell? ⟨b, off + k * 3 + 1, none⟩ = some (.slice s1 l1 q1) := tri.1 1 _ rfl
    have hx2 : wr.cell? ⟨b, off + k * 3 + 2, none⟩ = some (.slice s2 l2 q2) := tri.1 2 _ rfl
    have hy0 : wr.cell? ⟨b', off' + k * 3, none⟩ = some (.slice t0 m0 r0) := tri'.1 0 _ rfl
    have hy1 : wr.cell? ⟨b', off' + k * 3 + 1, none⟩ = some (.slice t1 m1 r1) := tri'.1 1 _ rfl
    have hy2 : wr.cell? ⟨b', off' + k * 3 + 2, none⟩ = some (.slice t2 m2 r2) := tri'.1 2 _ rfl
    obtain ⟨_, _, _, _, u0, u1, u2⟩ := tri
    obtain ⟨_, _, _, _, v0, v1, v2⟩ := tri'
    obtain ⟨hb0, hb1⟩ := cells2 (keep H2.out hbw.out)
    have hlb := row_lt (keep H2.out hbw.out)
    have z0 := tri_len HS.out (L := L) (n := n) (j := 3 * k) rfl
    have z1 := tri_len HS.out (L := L) (n := n) (j := 3 * k + 1) rfl
    have z2 := tri_len HS.out (L := L) (n := n) (j := 3 * k + 2) rfl
    generalize L.getD (3 * k) [] = x0 at *
    generalize L.getD (3 * k + 1) [] = x1 at *
    generalize L.getD (3 * k + 2) [] = x2 at *
    have hB1 := below_al wr (.cells #[.slice s0 l0 q0, .slice s1 l1 q1, .slice s2 l2 q2] 78)
    have hB2 := below_al (wr.alloc (.cells #[.slice s0 l0 q0, .slice s1 l1 q1, .slice s2 l2 q2] 78)) (.cells #[.slice t0 m0 r0, .slice t1 m1 r1, .slice t2 m2 r2] 78)
    have HBB := hide (hB1.trans (hB2.mono hB1.size))
    have e0 := u0.1
    have e1 := u1.1
    have e2 := u2.1
    have h0 := sameB_self x0
    have h1 := sameB_self x1
    have h2 := sameB_self x2
    have HC0 := hide (fun v (hb : Below wr.heap.size wr v) => sameI_any s0 t0 l0 m0 q0 r0 x0 x0 v (u0.below hb) (v0.below hb) (by omega))
    have HC1 := hide (fun v (hb : Below wr.heap.size wr v) => sameI_any s1 t1 l1 m1 q1 r1 x1 x1 v (u1.below hb) (v1.below hb) (by omega))
    have HC2 := hide (fun v (hb : Below wr.heap.size wr v) => sameI_any s2 t2 l2 m2 q2 r2 x2 x2 v (u2.below hb) (v2.below hb) (by omega))
    rw [h0] at HC0
    rw [h1] at HC1
    rw [h2] at HC2
    clear u0 u1 u2 v0 v1 v2 e0 e1 e2 z0 z1 z2 h0 h1 h2 hB1 hB2
    go_wp2_with fail
    refine (HC0.out _ HBB.out).mono ?_
    rintro e w1 ⟨rfl, qa, rfl⟩
    go_wp2_with fail
    refine (HC1.out _ (HBB.out.trans ((below_drewN' _ qa).mono HBB.out.size))).mono ?_
    rintro e w2 ⟨rfl, qb, rfl⟩
    go_wp2_with fail
    refine (HC2.out _ (HBB.out.trans ((below_drewN' _ (qa + qb)).mono HBB.out.size))).mono ?_
    rintro e w3 ⟨rfl, qc, rfl⟩
    have HBF := hide (hbw.out.trans ((HBB.out.trans ((below_drewN' _ (qa + qb + qc)).mono HBB.out.size)).mono hbw.out.size))
    clear hx0 hx1 hx2 hy0 hy1 hy2 HC0 HC1 HC2
    go_wp2_with fail
    go_roundw
    case rel => exact ⟨k + 1, by omega, by go_num, HBF⟩
    case measure => simp [intOf]; omega
end Go.Proofs.Ytdhnhpjcoeglmaa


/- What the cursor's mark and the Draw functions of chapter 1 answer: some number of places in 0..17 and some lists in new memory, of at most eighteen numbers, whatever the bytes; nothing that was there is written. -/
namespace Go.Proofs.Ytdhnhpjcoeglmaa
open Go.RowKit

theorem ownsRow_only {w w' : World} {B bc : Nat} {v : Value} {n : Nat} {l : List Value} (h : w.ownsRow B 3 1 v n l) (ho : OnlyC bc w w') (hb : bc < B) : w'.ownsRow B 3 1 v n l := by
  refine ⟨h.1, ?_⟩
  rcases h.2 with h0 | ⟨g, cap, cur, hv, hB, hh, r⟩
  · exact .inl h0
  · exact .inr ⟨g, cap, cur, hv, hB, (ho.block g (by omega)).trans hh, r⟩

/-- What holds while a mark is drawn: w ahead of the call, v now; k numbers have been laid into o. -/
structure MarkSt (w v : World) (bc : Nat) (ca : Option Addr) (cn cc p : Nat) (bs : List Int) (o : Value) (k : Nat) : Prop where
  own : ∃ xs : List Int, v.ownsRow w.heap.size 3 1 o k (xs.map (Value.int .i64))
  cur : Cur v bc ca cn cc p
  bytes : RowB v ca cn bs
  kept : Kept bc w.heap.size w v

theorem MarkSt.only {w v v' : World} {bc : Nat} {ca : Option Addr} {cn cc p p' : Nat} {bs : List Int} {o : Value} {k : Nat} (h : MarkSt w v bc ca cn cc p bs o k) (ho : OnlyC bc v v') (hc : Cur v' bc ca cn cc p') (hap : Apart ca cn bc) (hb : bc < w.heap.size) :
    MarkSt w v' bc ca cn cc p' bs o k := by
  obtain ⟨xs, hx⟩ := h.own
  exact ⟨⟨xs, ownsRow_only hx ho hb⟩, hc, h.bytes.keep ho hap, h.kept.trans (Kept.of_only ho)⟩

theorem MarkSt.alloc {w v : World} {bc : Nat} {ca : Option Addr} {cn cc p : Nat} {bs : List Int} {o : Value} {k : Nat} (h : MarkSt w v bc ca cn cc p bs o k) (ob : Obj) (hap : Apart ca cn bc) :
    MarkSt w (v.alloc ob) bc ca cn cc p bs o k := by
  obtain ⟨xs, hx⟩ := h.own
  have hb := (Below.refl v.heap.size v).alloc (Nat.le_refl _) ob
  exact ⟨⟨xs, hx.alloc ob⟩, h.cur.below hb h.cur.lt, h.bytes.kept (Kept.of_below hb) hap, h.kept.trans ((Kept.of_below hb).mono h.kept.size)⟩

theorem MarkSt.append {w v v' : World} {bc : Nat} {ca : Option Addr} {cn cc p : Nat} {bs : List Int} {o o' : Value} {k : Nat} {xs : List Int} {x : Int} (h : MarkSt w v bc ca cn cc p bs o k) (hx : v.ownsRow w.heap.size 3 1 o k (xs.map (Value.int .i64)))
    (hn : v'.ownsRow w.heap.size 3 1 o' (k + 1) (xs.map (Value.int .i64) ++ [.int .i64 x])) (hg : v.grownBy v' o.ownBlock) (hb : bc < w.heap.size) (hfar : 0 < cn → ∀ y, ca = some y → y.block < w.heap.size) :
    MarkSt w v' bc ca cn cc p bs o' (k + 1) := by
  have hbl : Below w.heap.size v v' := by
    refine (Below.refl w.heap.size v).grown hg h.kept.size fun j hj => ?_
    exact (hx.lt j hj).1
  refine ⟨⟨xs ++ [x], by rw [List.map_append]; exact hn⟩, h.cur.below hbl hb, ?_, h.kept.trans (Kept.of_below hbl)⟩
  refine ⟨h.bytes.1, h.bytes.2.1, ?_⟩
  rcases h.bytes.2.2 with h0 | ⟨b, off, e, hl, hc⟩
  · exact .inl h0
  · exact .inr ⟨b, off, e, Nat.lt_of_lt_of_le hl hbl.size, fun i hi => (World.cell?_of_block (hbl.block b (hfar (by omega) _ e))).trans (hc i hi)⟩

/-- How mark ends. -/
def MarkEnd (bc : Nat) (ca : Option Addr) (cn cc p : Nat) (bs : List Int) (w : World) (e : Ending) (w' : World) : Prop :=
  ∃ a n c xs p', e = .returned (.slice a n c) ∧ n ≤ 18 ∧ p' ≤ p + 60 ∧ Row w' a n xs ∧ Apart a n bc ∧ Cur w' bc ca cn cc p' ∧ RowB w' ca cn bs ∧ Kept bc w.heap.size w w'

theorem ownsRow_row' {B : Nat} {w : World} {v : Value} {n : Nat} {l : List Int} (hown : w.ownsRow B 3 1 v n (l.map (Value.int .i64))) : ∃ a c, v = .slice a n c ∧ Row w a n l := by
  have hl : l.length = n := by have := hown.1; simpa using this
  rcases hown.2 with ⟨rfl, rfl⟩ | ⟨g, cap, cur, rfl, hb, hh, hnc, _, hsz, ht⟩
  · exact ⟨none, 0, rfl, hl, .inl rfl⟩
  · refine ⟨_, cap, rfl, hl, .inr ⟨g, 0, rfl, (Array.getElem?_eq_some_iff.mp hh).1, fun i hi => ?_⟩⟩
    rw [cell_of_row w g (0 + i) _ _ _ hh, Nat.zero_add]
    have e1 : (cur.toList.take (n * 1))[i]? = some (.int .i64 (l.getD i 0)) := by
      rw [ht]; simp [List.getElem?_map, List.getElem?_eq_getElem (show i < l.length by omega)]
    rw [List.getElem?_take_of_lt (by omega)] at e1
    simpa using e1

theorem MarkSt.done {w v : World} {bc : Nat} {ca : Option Addr} {cn cc p q : Nat} {bs : List Int} {o : Value} {k : Nat} (h : MarkSt w v bc ca cn cc q bs o k) (hk : k ≤ 18) (hq : q ≤ p + 60) (hb : bc < w.heap.size) : MarkEnd bc ca cn cc p bs w (.returned o) v := by
  obtain ⟨xs, hx⟩ := h.own
  have hlt := hx.lt
  obtain ⟨a, c, rfl, hr⟩ := ownsRow_row' hx
  refine ⟨a, k, c, xs, q, rfl, hk, hq, hr, fun _ x hx => ?_, h.cur, h.bytes, h.kept⟩
  subst hx
  have := (hlt x.block rfl).1
  omega

/-- .. and the list lies in new memory. -/
def MarkEndW (bc : Nat) (ca : Option Addr) (cn cc p : Nat) (bs : List Int) (w : World) (e : Ending) (w' : World) : Prop :=
  ∃ a n c xs p', e = .returned (.slice a n c) ∧ n ≤ 18 ∧ p' ≤ p + 60 ∧ Row w' a n xs ∧ (0 < n → ∀ x, a = some x → w.heap.size ≤ x.block) ∧ Cur w' bc ca cn cc p' ∧ RowB w' ca cn bs ∧ Kept bc w.heap.size w w'

theorem MarkSt.doneW {w v : World} {bc : Nat} {ca : Option Addr} {cn cc p q : Nat} {bs : List Int} {o : Value} {k : Nat} (h : MarkSt w v bc ca cn cc q bs o k) (hk : k ≤ 18) (hq : q ≤ p + 60) (_hb : bc < w.heap.size) : MarkEndW bc ca cn cc p bs w (.returned o) v := by
  obtain ⟨xs, hx⟩ := h.own
  have hlt := hx.lt
  obtain ⟨a, c, rfl, hr⟩ := ownsRow_row' hx
  refine ⟨a, k, c, xs, q, rfl, hk, hq, hr, fun _ x hx => ?_, h.cur, h.bytes, h.kept⟩
  subst hx
  exact (hlt x.block rfl).1

/-- How a function ends that draws a number of places and a list. -/
def DrawEnd1 (w : World) (e : Ending) (w' : World) : Prop :=
  ∃ (p : Int) (a : Option Addr) (n c : Nat) (xs : List Int), e = .returned (.tuple #[.int .i64 p, .slice a n c]) ∧ n ≤ 18 ∧ Row w' a n xs ∧ Below w.heap.size w w'

/-- .. and two lists. -/
def DrawEnd2 (w : World) (e : Ending) (w' : World) : Prop :=
  ∃ (p : Int) (a : Option Addr) (n c : Nat) (xs : List Int) (b : Option Addr) (m d : Nat) (ys : List Int), e = .returned (.tuple #[.int .i64 p, .slice a n c, .slice b m d]) ∧ n ≤ 18 ∧ m ≤ 18 ∧ Row w' a n xs ∧ Row w' b m ys ∧ Below w.heap.size w w'

theorem RowB.below {w w' : World} {a : Option Addr} {n : Nat} {xs : List Int} (h : RowB w a n xs) (hb : Below w.heap.size w w') : RowB w' a n xs := by
  refine ⟨h.1, h.2.1, ?_⟩
  rcases h.2.2 with h0 | ⟨b, off, e, hl, hc⟩
  · exact .inl h0
  · exact .inr ⟨b, off, e, Nat.lt_of_lt_of_le hl hb.size, fun i hi => (hb.cell (p := ⟨b, off + i, none⟩) hl).trans (hc i hi)⟩

theorem RowB.far {w : World} {ca : Option Addr} {cn : Nat} {bs : List Int} (h : RowB w ca cn bs) (h0 : 0 < cn) (y : Addr) (hy : ca = some y) : y.block < w.heap.size := by
  rcases h.2.2 with h1 | ⟨b, off, e, hl, _⟩
  · omega
  · rw [e] at hy; obtain rfl := Option.some.inj hy; exact hl



end Go.Proofs.Ytdhnhpjcoeglmaa


/- someOf: some rising numbers in new memory, whatever the bytes; nothing that was there is written but the cursor. -/
namespace Go.Proofs.Ytdhnhpjcoeglmaa
open Go.RowKit
set_option maxRecDepth 10000

/-- A list that is nil, or lies from the head of a block at B or behind. -/
def NewL (B : Nat) (w : World) (a : Option Addr) (n c : Nat) (xs : List Int) : Prop :=
  (a = none ∧ n = 0 ∧ c = 0 ∧ xs = []) ∨ ∃ g, a = some ⟨g, 0, none⟩ ∧ B ≤ g ∧ 1 ≤ n ∧ n ≤ c ∧ c ≤ maxLen ∧ Row w a n xs

theorem NewL.row {B : Nat} {w : World} {a : Option Addr} {n c : Nat} {xs : List Int} (h : NewL B w a n c xs) : Row w a n xs := by
  rcases h with ⟨rfl, rfl, rfl, rfl⟩ | ⟨g, _, _, _, _, _, hr⟩
  · exact ⟨rfl, .inl rfl⟩
  · exact hr

theorem NewL.keep {B : Nat} {w w' : World} {a : Option Addr} {n c : Nat} {xs : List Int} (h : NewL B w a n c xs) (hs : w.heap.size ≤ w'.heap.size) (hk : ∀ g, B ≤ g → g < w.heap.size → (∃ o, a = some o ∧ o.block = g) → w'.heap[g]? = w.heap[g]?) : NewL B w' a n c xs := by
  rcases h with h | ⟨g, rfl, hB, h1, h2, h3, hr⟩
  · exact .inl h
  · refine .inr ⟨g, rfl, hB, h1, h2, h3, hr.1, ?_⟩
    rcases hr.2 with h0 | ⟨b, off, e, hl, hc⟩
    · exact .inl h0
    · obtain ⟨rfl, rfl⟩ : b = g ∧ off = 0 := by simpa [eq_comm] using e
      exact .inr ⟨b, 0, rfl, by omega, fun i hi => (World.cell?_of_block (hk b hB hl ⟨_, rfl, rfl⟩)).trans (hc i hi)⟩

theorem NewL.kept {B bc C : Nat} {w w' : World} {a : Option Addr} {n c : Nat} {xs : List Int} (h : NewL B w a n c xs) (hk : Kept bc C w w') (hC : w.heap.size ≤ C) (hb : bc < B) : NewL B w' a n c xs :=
  h.keep hk.size fun g hg hl _ => hk.block g (by omega) (by omega)
theorem NewL.mono {B C : Nat} {w : World} {a : Option Addr} {n c : Nat} {xs : List Int} (h : NewL B w a n c xs) (hC : C ≤ B) : NewL C w a n c xs := by
  rcases h with h | ⟨g, e, hB, h1⟩
  · exact .inl h
  · exact .inr ⟨g, e, by omega, h1⟩

/-- What is there while someOf draws. -/
structure SomeSt (w v : World) (bc : Nat) (ca : Option Addr) (cn cc p : Nat) (bs : List Int) (u : Value) (m : Nat) : Prop where
  new : ∃ a n c xs, u = .slice a n c ∧ n ≤ m ∧ NewL w.heap.size v a n c xs
  cur : Cur v bc ca cn cc p
  bytes : RowB v ca cn bs
  kept : Kept bc w.heap.size w v

/-- How someOf ends. -/
def SomeEnd (bc : Nat) (ca : Option Addr) (cn cc p : Nat) (bs : List Int) (w : World) (e : Ending) (w' : World) : Prop :=
  ∃ a n c xs p', e = .returned (.slice a n c) ∧ n ≤ 2 ∧ NewL w.heap.size w' a n c xs ∧ p' ≤ p + 3 ∧ Cur w' bc ca cn cc p' ∧ RowB w' ca cn bs ∧ Kept bc w.heap.size w w'

theorem SomeSt.only {w v v' : World} {bc : Nat} {ca : Option Addr} {cn cc p p' : Nat} {bs : List Int} {u : Value} {m : Nat} (h : SomeSt w v bc ca cn cc p bs u m) (ho : OnlyC bc v v') (hc : Cur v' bc ca cn cc p') (hap : Apart ca cn bc) (hb : bc < w.heap.size) : SomeSt w v' bc ca cn cc p' bs u m := by
  obtain ⟨a, n, c, xs, e, hn, hl⟩ := h.new
  exact ⟨⟨a, n, c, xs, e, hn, hl.kept (Kept.of_only (B := v.heap.size) ho) (Nat.le_refl _) hb⟩, hc, h.bytes.keep ho hap, h.kept.trans (Kept.of_only ho)⟩

/-- A put. -/
theorem SomeSt.put {w v : World} {bc : Nat} {ca : Option Addr} {cn cc p : Nat} {bs : List Int} {u : Value} {m : Nat} (h : SomeSt w v bc ca cn cc p bs u m) (hm : m ≤ 100) (x : Int) (hap : Apart ca cn bc) :
    Calls Try.prog 167 #[u, .int .i64 x] v fun e v' => ∃ u', e = .returned u' ∧ SomeSt w v' bc ca cn cc p bs u' (m + 1) := by
  have hcl := h.cur.lt
  have fin : ∀ {n b : Nat} {e : Ending} {v' : World}, n ≤ m → w.heap.size ≤ b → PutEnd n b v e v' → ∃ u', e = .returned u' ∧ SomeSt w v' bc ca cn cc p bs u' (m + 1) := by
    rintro n b e v' hn hgb ⟨g, n', c', ys, rfl, h1, h2, h3, h4, h5, h6, h7⟩
    refine ⟨_, rfl, ⟨_, _, _, ys, rfl, by omega, .inr ⟨g, rfl, ?_, h1, h3, h4, h5⟩⟩, h.cur.below h7 hcl, h.bytes.kept (Kept.of_below h7) hap, h.kept.trans ((Kept.of_below h7).mono h.kept.size)⟩
    have := h.kept.size
    rcases h6 with rfl | h6
    · exact hgb
    · omega
  obtain ⟨a, n, c, xs, rfl, hn, hl⟩ := h.new
  rcases hl with ⟨rfl, rfl, rfl, rfl⟩ | ⟨g, rfl, hB, h1, h2, h3, hr⟩
  · exact (put_nil x v).mono fun e v' he => fin (Nat.zero_le _) h.kept.size he
  · exact (put_some g n c xs x v hr (by omega) h1 h2 h3).mono fun e v' he => fin hn hB he

theorem SomeSt.done {w v : World} {bc : Nat} {ca : Option Addr} {cn cc p q : Nat} {bs : List Int} {u : Value} {m : Nat} (h : SomeSt w v bc ca cn cc q bs u m) (hm : m ≤ 2) (hq : q ≤ p + 3) : SomeEnd bc ca cn cc p bs w (.returned u) v := by
  obtain ⟨a, n, c, xs, rfl, hn, hl⟩ := h.new
  exact ⟨a, n, c, xs, q, rfl, by omega, hl, hq, h.cur, h.bytes, h.kept⟩

set_option maxHeartbeats 1000000 in
theorem some_draw (pl lo : Nat) (bc : Nat) (ca : Option Addr) (cn cc p : Nat) (bs : List Int) (w : World) (h : Cur w bc ca cn cc p) (hr : RowB w ca cn bs) (hap : Apart ca cn bc) (hp : p ≤ 900000) (hn : cn ≤ 1048576) (hpl : 2 ≤ pl) (hpl2 : pl ≤ 200) (hlo : lo ≤ 1) :
    Calls Try.prog 131 #[.pointer (some ⟨bc, 0, none⟩), .int .i64 (pl : Int), .int .i64 (lo : Int), .int .i64 2] w fun e w' => SomeEnd bc ca cn cc p bs w e w' := by
  have hbc := h.lt
  have ST := hide (SomeSt.mk (w := w) (u := .slice none 0 0) (m := 0) ⟨none, 0, 0, [], rfl, Nat.le_refl _, .inl ⟨rfl, rfl, rfl, rfl⟩⟩ h hr (Kept.refl bc _ w))
  have HP := hide (pick_any (3 - lo) bc ca cn cc p bs w h hr (by omega) hn (by omega) (by omega))
  rw [show ((3 - lo : Nat) : Int) = 2 - (lo : Int) + 1 by omega] at HP
  clear h hr
  go_enter Try.func131, Try.ntmps131
  go_wp2_with fail
  refine HP.out.mono ?_
  rintro e v1 ⟨r, rfl, hr, hcur, ho⟩
  have S1 := hide (ST.out.only ho hcur hap hbc)
  clear hcur ho ST HP
  go_wp2_with fail
  go_loopw [9, 10] (fun u i wr => ∃ k q m : Nat, i = .int .i64 k ∧ k + m ≤ 2 ∧ q + k ≤ p + 3 ∧ Hid (SomeSt w wr bc ca cn cc q bs u m)) (fun _ i _ => (intOf i).toNat)
  case atStart => exact ⟨lo + r, p + 1, 0, by go_num, by omega, by omega, S1⟩
  case round =>
    obtain ⟨k, q, m, rfl, hkm, hq, S0⟩ := hrel
    clear S1
    by_cases hlt : 0 < k
    · have hi1 : (0 : Int) < (k : Int) := by omega
      go_wp2_with fail
      refine (pick_any pl bc ca cn cc q bs _ S0.out.cur S0.out.bytes (by omega) hn hpl hpl2).mono ?_
      rintro e v2 ⟨x, rfl, hx, hcur, ho⟩
      have S2 := hide (S0.out.only ho hcur hap hbc)
      clear hcur ho S0
      go_wp2_with fail
      refine (S2.out.put (by omega) _ hap).mono ?_
      rintro e v3 ⟨u', rfl, S3'⟩
      have S3 := hide S3'
      clear S3' S2
      go_wp2_with fail
      go_roundw
      case rel => exact ⟨k - 1, q + 1, m + 1, by go_num, by omega, by omega, S3⟩
      case measure => simp [intOf]; omega
    · have hk0 : k = 0 := by omega
      subst hk0
      go_wp2_with fail
      go_ret
      exact S0.out.done (by omega) (by omega)
end Go.Proofs.Ytdhnhpjcoeglmaa


/- A net that is being drawn: its transitions in a row of their own, each list of at most two numbers, nil or in a block of its own. -/
namespace Go.Proofs.Ytdhnhpjcoeglmaa
open Go.RowKit
set_option maxRecDepth 10000

theorem NewL.lt {B : Nat} {w : World} {a : Option Addr} {n c : Nat} {xs : List Int} (h : NewL B w a n c xs) {o : Addr} (ho : a = some o) : B ≤ o.block ∧ o.block < w.heap.size := by
  rcases h with ⟨e, _⟩ | ⟨g, e, hB, h1, _, _, hr⟩
  · rw [e] at ho; cases ho
  · rw [e] at ho
    obtain rfl := Option.some.inj ho
    rcases hr.2 with h0 | ⟨b, off, e2, hl, _⟩
    · omega
    · rw [e] at e2
      obtain ⟨rfl, rfl⟩ : g = b ∧ 0 = off := by simpa using e2
      exact ⟨hB, hl⟩

def TriC (B : Nat) (v : World) (u : Value) (cells : List Value) (j : Nat) : Prop :=
  ∃ a n c xs, cells[j]? = some (.slice a n c) ∧ n ≤ 2 ∧ NewL B v a n c xs ∧ ∀ o, a = some o → u.ownBlock ≠ some o.block

structure NetOwn (B : Nat) (v : World) (u : Value) (k : Nat) (cells : List Value) : Prop where
  own : v.ownsRow B 78 3 u k cells
  tris : ∀ j, j < 3 * k → TriC B v u cells j

theorem NetOwn.nil (B : Nat) (v : World) : NetOwn B v (.slice none 0 0) 0 [] := ⟨World.ownsRow_nil _ _ _ _, fun j hj => absurd hj (by omega)⟩

theorem NetOwn.moved {B : Nat} {v v' : World} {u : Value} {k : Nat} {cells : List Value} (h : NetOwn B v u k cells) (hs : v.heap.size ≤ v'.heap.size) (hk : ∀ q, B ≤ q → q < v.heap.size → v'.heap[q]? = v.heap[q]?) : NetOwn B v' u k cells := by
  refine ⟨⟨h.own.1, ?_⟩, fun j hj => ?_⟩
  · rcases h.own.2 with hn | ⟨g, cp, cur, e, hg, hh, r⟩
    · exact .inl hn
    · exact .inr ⟨g, cp, cur, e, hg, (hk g hg (Array.getElem?_eq_some_iff.mp hh).1).trans hh, r⟩
  · obtain ⟨a, n, c, xs, e, hn, hl, hd⟩ := h.tris j hj
    exact ⟨a, n, c, xs, e, hn, hl.keep hs fun g hg hlt _ => hk g hg hlt, hd⟩

theorem NetOwn.kept {B bc C : Nat} {v v' : World} {u : Value} {k : Nat} {cells : List Value} (h : NetOwn B v u k cells) (hk : Kept bc C v v') (hC : v.heap.size ≤ C) (hb : bc < B) : NetOwn B v' u k cells :=
  h.moved hk.size fun q hq hl => hk.block q (by omega) (by omega)
theorem NetOwn.low {B C : Nat} {v : World} {u : Value} {k : Nat} {cells : List Value} (h : NetOwn B v u k cells) (hC : C ≤ B) : NetOwn C v u k cells := by
  refine ⟨⟨h.own.1, ?_⟩, fun j hj => ?_⟩
  · rcases h.own.2 with hn | ⟨g, cp, cur, e, hg, r⟩
    · exact .inl hn
    · exact .inr ⟨g, cp, cur, e, by omega, r⟩
  · obtain ⟨a, n, c, xs, e, hn, hl, hd⟩ := h.tris j hj
    exact ⟨a, n, c, xs, e, hn, hl.mono hC, hd⟩

theorem NetOwn.append {B : Nat} {v W : World} {u : Value} {k : Nat} {cells : List Value} {g cp : Nat} {a0 a1 a2 : Option Addr} {n0 n1 n2 c0 c1 c2 : Nat} {x0 x1 x2 : List Int} (h : NetOwn B v u k cells)
    (h0 : NewL B v a0 n0 c0 x0) (h1 : NewL B v a1 n1 c1 x1) (h2 : NewL B v a2 n2 c2 x2) (m0 : n0 ≤ 2) (m1 : n1 ≤ 2) (m2 : n2 ≤ 2)
    (d0 : ∀ o, a0 = some o → u.ownBlock ≠ some o.block) (d1 : ∀ o, a1 = some o → u.ownBlock ≠ some o.block) (d2 : ∀ o, a2 = some o → u.ownBlock ≠ some o.block)
    (hown : W.ownsRow B 78 3 (.slice (some ⟨g, 0, none⟩) (k + 1) cp) (k + 1) (cells ++ [.slice a0 n0 c0, .slice a1 n1 c1, .slice a2 n2 c2])) (hgr : v.grownBy W u.ownBlock) (hl : u.ownBlock = some g ∨ g = v.heap.size) :
    NetOwn B W (.slice (some ⟨g, 0, none⟩) (k + 1) cp) (k + 1) (cells ++ [.slice a0 n0 c0, .slice a1 n1 c1, .slice a2 n2 c2]) := by
  have hcl : cells.length = 3 * k := by have := h.own.1; omega
  have key : ∀ {a : Option Addr} {n c : Nat} {xs : List Int}, NewL B v a n c xs → (∀ o, a = some o → u.ownBlock ≠ some o.block) → NewL B W a n c xs ∧ ∀ o, a = some o → (Value.slice (some ⟨g, 0, none⟩) (k + 1) cp).ownBlock ≠ some o.block := by
    intro a n c xs hn hd
    refine ⟨hn.keep hgr.size fun q hq hlt ⟨o, ho, hoq⟩ => hgr.block q hlt fun e => hd o ho (by rw [hoq]; exact e.symm), fun o ho e => ?_⟩
    have e' : g = o.block := by simpa [Value.ownBlock] using e
    have hlt := (hn.lt ho).2
    rcases hl with hl | hl
    · exact hd o ho (by rw [hl, e'])
    · omega
  refine ⟨hown, fun j hj => ?_⟩
  by_cases hlt : j < 3 * k
  · obtain ⟨a, n, c, xs, e, hn, hl', hd⟩ := h.tris j hlt
    obtain ⟨q1, q2⟩ := key hl' hd
    exact ⟨a, n, c, xs, by rw [List.getElem?_append_left (by omega)]; exact e, hn, q1, q2⟩
  · have hget : (cells ++ [.slice a0 n0 c0, .slice a1 n1 c1, .slice a2 n2 c2])[j]? = [Value.slice a0 n0 c0, .slice a1 n1 c1, .slice a2 n2 c2][j - 3 * k]? := by rw [List.getElem?_append_right (by omega), hcl]
    obtain hj0 | hj0 | hj0 : j - 3 * k = 0 ∨ j - 3 * k = 1 ∨ j - 3 * k = 2 := by omega
    · obtain ⟨q1, q2⟩ := key h0 d0
      exact ⟨_, _, _, _, by rw [hget, hj0]; rfl, m0, q1, q2⟩
    · obtain ⟨q1, q2⟩ := key h1 d1
      exact ⟨_, _, _, _, by rw [hget, hj0]; rfl, m1, q1, q2⟩
    · obtain ⟨q1, q2⟩ := key h2 d2
      exact ⟨_, _, _, _, by rw [hget, hj0]; rfl, m2, q1, q2⟩

theorem NetOwn.set {B : Nat} {v : World} {k : Nat} {cells : List Value} {g cp j : Nat} {a : Option Addr} {n c : Nat} {xs : List Int} (h : NetOwn B v (.slice (some ⟨g, 0, none⟩) k cp) k cells) (hj : j < 3 * k)
    (hn : NewL B v a n c xs) (hn2 : n ≤ 2) (hd : ∀ o, a = some o → o.block ≠ g) : NetOwn B (v.setCell ⟨g, j, none⟩ (.slice a n c)) (.slice (some ⟨g, 0, none⟩) k cp) k (cells.set j (.slice a n c)) := by
  have hcl : cells.length = 3 * k := by have := h.own.1; omega
  have hoth : ∀ q, q ≠ g → (v.setCell ⟨g, j, none⟩ (.slice a n c)).heap[q]? = v.heap[q]? := fun q hq => Below.heap_setCell _ _ _ _ hq
  have hsz : v.heap.size ≤ (v.setCell ⟨g, j, none⟩ (.slice a n c)).heap.size := by simp [World.setCell]
  refine ⟨⟨by simpa using h.own.1, ?_⟩, fun i hi => ?_⟩
  · rcases h.own.2 with ⟨e, _⟩ | ⟨g', cp', cur, e, hg, hh, r1, r2, r3, r4⟩
    · simp at e
    · obtain ⟨rfl, rfl⟩ : g = g' ∧ cp = cp' := by simpa using e
      refine .inr ⟨g, cp, _, rfl, hg, heap_setCell_same v g j cur _ _ hh, r1, r2, by simpa using r3, ?_⟩
      rw [← r4]
      simp [List.take_set]
  · obtain ⟨a', n', c', xs', e, hn', hl', hd'⟩ := h.tris i hi
    by_cases hij : i = j
    · subst hij
      exact ⟨a, n, c, xs, by rw [List.getElem?_set_self (by omega)], hn2, hn.keep hsz fun q _ _ ⟨o, ho, hoq⟩ => hoth q (by have := hd o ho; omega), fun o ho e => hd o ho (by simpa [Value.ownBlock, eq_comm] using e)⟩
    · exact ⟨a', n', c', xs', by rw [List.getElem?_set_ne (fun e => hij e.symm)]; exact e, hn', hl'.keep hsz fun q _ _ ⟨o, ho, hoq⟩ => hoth q (by have := hd' o ho; simp [Value.ownBlock] at this; omega), hd'⟩

theorem exists_list {P : Nat → List Int → Prop} (n : Nat) (h : ∀ j, j < n → ∃ x, P j x) : ∃ L : List (List Int), L.length = n ∧ ∀ j, j < n → P j (L.getD j []) := by
  induction n with
  | zero => exact ⟨[], rfl, fun j hj => absurd hj (by omega)⟩
  | succ n ih =>
    obtain ⟨L, hL, hP⟩ := ih fun j hj => h j (by omega)
    obtain ⟨x, hx⟩ := h n (by omega)
    refine ⟨L ++ [x], by simp [hL], fun j hj => ?_⟩
    by_cases hjn : j = n
    · subst hjn
      rw [List.getD_eq_getElem?_getD, List.getElem?_append_right (by omega), hL]
      simpa using hx
    · have := hP j (by omega)
      rw [List.getD_eq_getElem?_getD, List.getElem?_append_left (by omega), ← List.getD_eq_getElem?_getD]
      exact this

/-- A drawn net can be read. -/
theorem NetOwn.lists {B : Nat} {v : World} {u : Value} {k : Nat} {cells : List Value} (h : NetOwn B v u k cells) (hk : k ≤ 5) : ∃ a c L, u = .slice a k c ∧ Lists v a (3 * k) L ∧ sizeN k L ≤ 35 ∧ (∀ o, a = some o → B ≤ o.block) := by
  have hcl : cells.length = 3 * k := by have := h.own.1; omega
  obtain ⟨L, hL, hP⟩ := exists_list (P := fun j x => ∃ a n c, cells[j]? = some (.slice a n c) ∧ n ≤ 2 ∧ NewL B v a n c x) (3 * k) fun j hj => by
    obtain ⟨a, n, c, xs, e, hn, hl, _⟩ := h.tris j hj
    exact ⟨xs, a, n, c, e, hn, hl⟩
  have hsz : ∀ q, q ≤ 3 * k → sizeL (L.take q) ≤ 2 * q := by
    intro q
    induction q with
    | zero => intro _; simp [sizeL]
    | succ q ih =>
      intro hq
      rw [sizeL_take_succ L q (by omega)]
      obtain ⟨a, n, c, _, hn, hl⟩ := hP q (by omega)
      have := hl.row.1
      have := ih (by omega)
      omega
  have hs : sizeN k L ≤ 35 := by
    unfold sizeN
    have := hsz (3 * k) (Nat.le_refl _)
    rw [List.take_of_length_le (by omega)] at this
    omega
  rcases h.own.2 with ⟨e, h0⟩ | ⟨g, cp, cur, e, hg, hh, _, _, hsc, htk⟩
  · subst h0
    exact ⟨none, 0, L, e, ⟨hL, .inl rfl⟩, hs, fun o ho => by cases ho⟩
  · refine ⟨_, cp, L, e, ⟨hL, .inr ⟨g, 0, rfl, (Array.getElem?_eq_some_iff.mp hh).1, fun j hj => ?_⟩⟩, hs, fun o ho => by obtain rfl := Option.some.inj ho; exact hg⟩
    obtain ⟨a, n, c, e1, hn, hl⟩ := hP j hj
    refine ⟨a, n, c, ?_, by unfold maxLen; omega, hl.row⟩
    rw [cell_of_row v g (0 + j) cur _ _ hh, Nat.zero_add]
    have e2 : (cur.toList.take (k * 3))[j]? = cells[j]? := by rw [htk]
    rw [List.getElem?_take_of_lt (by omega), Array.getElem?_toList] at e2
    rw [e2, e1]
end Go.Proofs.Ytdhnhpjcoeglmaa
