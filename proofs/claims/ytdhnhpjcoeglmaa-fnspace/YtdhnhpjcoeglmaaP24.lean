/- Contracts that the proof stands on, one behind the other. -/
import Derived.Test.YtdhnhpjcoeglmaaP23
import Derived.Deep.Cut
/- What the cursor's mark and the Draw functions of chapter 1 answer: some number of places in 0..17 and some lists in new memory, of at most eighteen numbers, whatever the bytes; nothing that was there is written. -/
namespace Go.Proofs.Ytdhnhpjcoeglmaa
open Go.RowKit

theorem ownsRow_only {w w' : World} {B bc : Nat} {v : Value} {n : Nat} {l : List Value} (h : w.ownsRow B 3 1 v n l) (ho : OnlyC bc w w') (hb : bc < B) : w'.ownsRow B 3 1 v n l := by
  refine ⟨h.1, ?_⟩
  rcases h.2 with h0 | ⟨g, cap, cur, hv, hB, hh, r⟩
  · exact .inl h0
  · exact .inr ⟨g, cap, cur, hv, hB, (ho.block g (by omega)).trans hh, r⟩

/-- What holds while a mark is drawn: w ahead of the call, v now; k numbers have been laid into o. -/
structure MarkSt (w v : World) (bc : Nat) (ca : Option Addr) (cn cc p : Nat) (bs : List Int) (o : Value) (k : Nat) : Prop where
  own : ∃ xs : List Int, v.ownsRow w.heap.size 3 1 o k (xs.map (Value.int .i64))
  cur : Cur v bc ca cn cc p
  bytes : RowB v ca cn bs
  kept : Kept bc w.heap.size w v

theorem MarkSt.only {w v v' : World} {bc : Nat} {ca : Option Addr} {cn cc p p' : Nat} {bs : List Int} {o : Value} {k : Nat} (h : MarkSt w v bc ca cn cc p bs o k) (ho : OnlyC bc v v') (hc : Cur v' bc ca cn cc p') (hap : Apart ca cn bc) (hb : bc < w.heap.size) :
    MarkSt w v' bc ca cn cc p' bs o k := by
  obtain ⟨xs, hx⟩ := h.own
  exact ⟨⟨xs, ownsRow_only hx ho hb⟩, hc, h.bytes.keep ho hap, h.kept.trans (Kept.of_only ho)⟩

theorem MarkSt.alloc {w v : World} {bc : Nat} {ca : Option Addr} {cn cc p : Nat} {bs : List Int} {o : Value} {k : Nat} (h : MarkSt w v bc ca cn cc p bs o k) (ob : Obj) (hap : Apart ca cn bc) :
    MarkSt w (v.alloc ob) bc ca cn cc p bs o k := by
  obtain ⟨xs, hx⟩ := h.own
  have hb := (Below.refl v.heap.size v).alloc (Nat.le_refl _) ob
  exact ⟨⟨xs, hx.alloc ob⟩, h.cur.below hb h.cur.lt, h.bytes.kept (Kept.of_below hb) hap, h.kept.trans ((Kept.of_below hb).mono h.kept.size)⟩

theorem MarkSt.append {w v v' : World} {bc : Nat} {ca : Option Addr} {cn cc p : Nat} {bs : List Int} {o o' : Value} {k : Nat} {xs : List Int} {x : Int} (h : MarkSt w v bc ca cn cc p bs o k) (hx : v.ownsRow w.heap.size 3 1 o k (xs.map (Value.int .i64)))
    (hn : v'.ownsRow w.heap.size 3 1 o' (k + 1) (xs.map (Value.int .i64) ++ [.int .i64 x])) (hg : v.grownBy v' o.ownBlock) (hb : bc < w.heap.size) (hfar : 0 < cn → ∀ y, ca = some y → y.block < w.heap.size) :
    MarkSt w v' bc ca cn cc p bs o' (k + 1) := by
  have hbl : Below w.heap.size v v' := by
    refine (Below.refl w.heap.size v).grown hg h.kept.size fun j hj => ?_
    exact (hx.lt j hj).1
  refine ⟨⟨xs ++ [x], by rw [List.map_append]; exact hn⟩, h.cur.below hbl hb, ?_, h.kept.trans (Kept.of_below hbl)⟩
  refine ⟨h.bytes.1, h.bytes.2.1, ?_⟩
  rcases h.bytes.2.2 with h0 | ⟨b, off, e, hl, hc⟩
  · exact .inl h0
  · exact .inr ⟨b, off, e, Nat.lt_of_lt_of_le hl hbl.size, fun i hi => (World.cell?_of_block (hbl.block b (hfar (by omega) _ e))).trans (hc i hi)⟩

/-- How mark ends. -/
def MarkEnd (bc : Nat) (ca : Option Addr) (cn cc p : Nat) (bs : List Int) (w : World) (e : Ending) (w' : World) : Prop :=
  ∃ a n c xs p', e = .returned (.slice a n c) ∧ n ≤ 18 ∧ p' ≤ p + 60 ∧ Row w' a n xs ∧ Apart a n bc ∧ Cur w' bc ca cn cc p' ∧ RowB w' ca cn bs ∧ Kept bc w.heap.size w w'

theorem ownsRow_row' {B : Nat} {w : World} {v : Value} {n : Nat} {l : List Int} (hown : w.ownsRow B 3 1 v n (l.map (Value.int .i64))) : ∃ a c, v = .slice a n c ∧ Row w a n l := by
  have hl : l.length = n := by have := hown.1; simpa using this
  rcases hown.2 with ⟨rfl, rfl⟩ | ⟨g, cap, cur, rfl, hb, hh, hnc, _, hsz, ht⟩
  · exact ⟨none, 0, rfl, hl, .inl rfl⟩
  · refine ⟨_, cap, rfl, hl, .inr ⟨g, 0, rfl, (Array.getElem?_eq_some_iff.mp hh).1, fun i hi => ?_⟩⟩
    rw [cell_of_row w g (0 + i) _ _ _ hh, Nat.zero_add]
    have e1 : (cur.toList.take (n * 1))[i]? = some (.int .i64 (l.getD i 0)) := by
      rw [ht]; simp [List.getElem?_map, List.getElem?_eq_getElem (show i < l.length by omega)]
    rw [List.getElem?_take_of_lt (by omega)] at e1
    simpa using e1

theorem MarkSt.done {w v : World} {bc : Nat} {ca : Option Addr} {cn cc p q : Nat} {bs : List Int} {o : Value} {k : Nat} (h : MarkSt w v bc ca cn cc q bs o k) (hk : k ≤ 18) (hq : q ≤ p + 60) (hb : bc < w.heap.size) : MarkEnd bc ca cn cc p bs w (.returned o) v := by
  obtain ⟨xs, hx⟩ := h.own
  have hlt := hx.lt
  obtain ⟨a, c, rfl, hr⟩ := ownsRow_row' hx
  refine ⟨a, k, c, xs, q, rfl, hk, hq, hr, fun _ x hx => ?_, h.cur, h.bytes, h.kept⟩
  subst hx
  have := (hlt x.block rfl).1
  omega

/-- .. and the list lies in new memory. -/
def MarkEndW (bc : Nat) (ca : Option Addr) (cn cc p : Nat) (bs : List Int) (w : World) (e : Ending) (w' : World) : Prop :=
  ∃ a n c xs p', e = .returned (.slice a n c) ∧ n ≤ 18 ∧ p' ≤ p + 60 ∧ Row w' a n xs ∧ (0 < n → ∀ x, a = some x → w.heap.size ≤ x.block) ∧ Cur w' bc ca cn cc p' ∧ RowB w' ca cn bs ∧ Kept bc w.heap.size w w'

theorem MarkSt.doneW {w v : World} {bc : Nat} {ca : Option Addr} {cn cc p q : Nat} {bs : List Int} {o : Value} {k : Nat} (h : MarkSt w v bc ca cn cc q bs o k) (hk : k ≤ 18) (hq : q ≤ p + 60) (_hb : bc < w.heap.size) : MarkEndW bc ca cn cc p bs w (.returned o) v := by
  obtain ⟨xs, hx⟩ := h.own
  have hlt := hx.lt
  obtain ⟨a, c, rfl, hr⟩ := ownsRow_row' hx
  refine ⟨a, k, c, xs, q, rfl, hk, hq, hr, fun _ x hx => ?_, h.cur, h.bytes, h.kept⟩
  subst hx
  exact (hlt x.block rfl).1

/-- How a function ends that draws a number of places and a list. -/
def DrawEnd1 (w : World) (e : Ending) (w' : World) : Prop :=
  ∃ (p : Int) (a : Option Addr) (n c : Nat) (xs : List Int), e = .returned (.tuple #[.int .i64 p, .slice a n c]) ∧ n ≤ 18 ∧ Row w' a n xs ∧ Below w.heap.size w w'

/-- .. and two lists. -/
def DrawEnd2 (w : World) (e : Ending) (w' : World) : Prop :=
  ∃ (p : Int) (a : Option Addr) (n c : Nat) (xs : List Int) (b : Option Addr) (m d : Nat) (ys : List Int), e = .returned (.tuple #[.int .i64 p, .slice a n c, .slice b m d]) ∧ n ≤ 18 ∧ m ≤ 18 ∧ Row w' a n xs ∧ Row w' b m ys ∧ Below w.heap.size w w'

theorem RowB.below {w w' : World} {a : Option Addr} {n : Nat} {xs : List Int} (h : RowB w a n xs) (hb : Below w.heap.size w w') : RowB w' a n xs := by
  refine ⟨h.1, h.2.1, ?_⟩
  rcases h.2.2 with h0 | ⟨b, off, e, hl, hc⟩
  · exact .inl h0
  · exact .inr ⟨b, off, e, Nat.lt_of_lt_of_le hl hb.size, fun i hi => (hb.cell (p := ⟨b, off + i, none⟩) hl).trans (hc i hi)⟩

theorem RowB.far {w : World} {ca : Option Addr} {cn : Nat} {bs : List Int} (h : RowB w ca cn bs) (h0 : 0 < cn) (y : Addr) (hy : ca = some y) : y.block < w.heap.size := by
  rcases h.2.2 with h1 | ⟨b, off, e, hl, _⟩
  · omega
  · rw [e] at hy; obtain rfl := Option.some.inj hy; exact hl



end Go.Proofs.Ytdhnhpjcoeglmaa


/- l1Most and the cursor's markOf: a list in new memory, of as many numbers as the net has places, whatever the bytes; nothing that was there is written but the cursor. -/
namespace Go.Proofs.Ytdhnhpjcoeglmaa
open Go.RowKit
set_option maxRecDepth 10000

def mostI (a b : Int) : Int := if b < a then a else b

theorem most_any (a b : Int) (w : World) : Calls Try.prog 104 #[.int .i64 a, .int .i64 b] w fun e w' => e = .returned (.int .i64 (mostI a b)) ∧ w' = w := by
  unfold mostI
  by_cases h : b < a
  · rw [if_pos h]
    go_enter Try.func104, Try.ntmps104
    go_wp2_with fail
    go_ret
    exact ⟨rfl, rfl⟩
  · rw [if_neg h]
    go_enter Try.func104, Try.ntmps104
    go_wp2_with fail
    go_ret
    exact ⟨rfl, rfl⟩

theorem MarkSt.form {w v : World} {bc : Nat} {ca : Option Addr} {cn cc p : Nat} {bs : List Int} {o : Value} {k : Nat} (h : MarkSt w v bc ca cn cc p bs o k) (hk : 0 < k) : ∃ g cap, o = .slice (some ⟨g, 0, none⟩) k cap ∧ w.heap.size ≤ g ∧ g < v.heap.size ∧ (∃ z, v.cell? ⟨g, 0, none⟩ = some z) ∧ v.frozen? ⟨g, 0, none⟩ = false := by
  obtain ⟨xs, hx⟩ := h.own
  rcases hx.2 with ⟨_, h0⟩ | ⟨g, cap, cur, e, hg, hh, _, _, hsz, _⟩
  · omega
  · refine ⟨g, cap, e, hg, (Array.getElem?_eq_some_iff.mp hh).1, ⟨cur[0]'(by omega), ?_⟩, frozen_of_row v g 0 _ _ hh⟩
    rw [cell_of_row v g 0 _ _ _ hh]
    exact Array.getElem?_eq_getElem (by omega)

theorem MarkSt.set0 {w v : World} {bc : Nat} {ca : Option Addr} {cn cc p : Nat} {bs : List Int} {g cap k : Nat} (h : MarkSt w v bc ca cn cc p bs (.slice (some ⟨g, 0, none⟩) k cap) k) (hg : w.heap.size ≤ g) (x : Int) (hb : bc < w.heap.size) (hfar : 0 < cn → ∀ y, ca = some y → y.block < w.heap.size) :
    MarkSt w (v.setCell ⟨g, 0, none⟩ (.int .i64 x)) bc ca cn cc p bs (.slice (some ⟨g, 0, none⟩) k cap) k := by
  have hset : ∀ q, q ≠ g → (v.setCell ⟨g, 0, none⟩ (.int .i64 x)).heap[q]? = v.heap[q]? := fun q hq => Below.heap_setCell _ _ _ _ hq
  have hbl : Below w.heap.size v (v.setCell ⟨g, 0, none⟩ (.int .i64 x)) := Below.setCell (p := ⟨g, 0, none⟩) (Below.refl _ _) (show _ ≤ g by omega) _
  obtain ⟨xs, hx⟩ := h.own
  refine ⟨⟨xs.set 0 x, ?_⟩, h.cur.below hbl hb, ?_, h.kept.trans (Kept.of_below hbl)⟩
  · refine ⟨by simpa using hx.1, ?_⟩
    rcases hx.2 with ⟨e, _⟩ | ⟨g', cp', cur, e, hg, hh, r1, r2, r3, r4⟩
    · simp at e
    · obtain ⟨rfl, rfl⟩ : g = g' ∧ cap = cp' := by simpa using e
      refine .inr ⟨g, cap, _, rfl, hg, heap_setCell_same v g 0 cur _ _ hh, r1, r2, by simpa using r3, ?_⟩
      rw [List.map_set, ← r4]
      simp [List.take_set]
  · refine ⟨h.bytes.1, h.bytes.2.1, ?_⟩
    rcases h.bytes.2.2 with h0 | ⟨b, off, e, hl, hc⟩
    · exact .inl h0
    · exact .inr ⟨b, off, e, Nat.lt_of_lt_of_le hl hbl.size, fun i hi => (World.cell?_of_block (hbl.block b (hfar (by omega) _ e))).trans (hc i hi)⟩

/-- How markOf ends. -/
def MarkEndN (bc : Nat) (ca : Option Addr) (cn cc p : Nat) (bs : List Int) (w : World) (e : Ending) (w' : World) : Prop :=
  ∃ a n c xs p', e = .returned (.slice a n c) ∧ n ≤ 18 ∧ p' ≤ p + 60 ∧ Row w' a n xs ∧ (0 < n → ∀ x, a = some x → w.heap.size ≤ x.block) ∧ Cur w' bc ca cn cc p' ∧ RowB w' ca cn bs ∧ Kept bc w.heap.size w w'

theorem MarkSt.doneN {w v : World} {bc : Nat} {ca : Option Addr} {cn cc p q : Nat} {bs : List Int} {o : Value} {k : Nat} (h : MarkSt w v bc ca cn cc q bs o k) (hk : k ≤ 18) (hq : q ≤ p + 60) : MarkEndN bc ca cn cc p bs w (.returned o) v := by
  obtain ⟨xs, hx⟩ := h.own
  have hlt := hx.lt
  obtain ⟨a, c, rfl, hr⟩ := ownsRow_row' hx
  refine ⟨a, k, c, xs, q, rfl, hk, hq, hr, fun _ x hx => ?_, h.cur, h.bytes, h.kept⟩
  subst hx
  exact (hlt x.block rfl).1

set_option maxHeartbeats 1000000 in
theorem markOf_draw (pl : Int) (ua : Option Addr) (un uc : Nat) (bc : Nat) (ca : Option Addr) (cn cc p : Nat) (bs : List Int) (w : World) (h : Cur w bc ca cn cc p) (hr : RowB w ca cn bs) (hap : Apart ca cn bc) (hp : p ≤ 900000) (hn : cn ≤ 1048576) (hpl : 0 ≤ pl ∧ pl ≤ 17) :
    Calls Try.prog 86 #[.pointer (some ⟨bc, 0, none⟩), .agg #[.int .i64 pl, .slice ua un uc]] w fun e w' => MarkEndN bc ca cn cc p bs w e w' := by
  obtain ⟨m, rfl⟩ : ∃ m : Nat, pl = (m : Int) := ⟨pl.toNat, by omega⟩
  have hm : m ≤ 17 := by omega
  have hA := below_al w (.cells #[.int .i64 (m : Int), .slice ua un uc] 26)
  have hbc0 := h.lt
  have hbc : bc < (w.alloc (.cells #[.int .i64 (m : Int), .slice ua un uc] 26)).heap.size := by simp; omega
  have ST := hide (MarkSt.mk (w := w.alloc (.cells #[.int .i64 (m : Int), .slice ua un uc] 26)) (o := .slice none 0 0) ⟨[], World.ownsRow_nil _ _ _ _⟩ (h.below hA hbc0) (hr.kept (Kept.of_below hA) hap) (Kept.refl bc _ _))
  have HF := hide (hr.kept (Kept.of_below hA) hap).far
  have HBX := hide (heap_alloc_new w (.cells #[.int .i64 (m : Int), .slice ua un uc] 26))
  have HEND : Hid (∀ e v, MarkEndN bc ca cn cc p bs (w.alloc (.cells #[.int .i64 (m : Int), .slice ua un uc] 26)) e v → MarkEndN bc ca cn cc p bs w e v) := by
    rintro e v ⟨a, n, c, xs, p', h1, h2, h3, h4, h5, h6, h7, h8⟩
    exact ⟨a, n, c, xs, p', h1, h2, h3, h4, fun h0 x hx => Nat.le_trans (by simp) (h5 h0 x hx), h6, h7, (Kept.of_below hA).trans (h8.mono (by simp))⟩
  have HAP := hide hap
  have hBb : Hid (w.heap.size ≠ bc ∧ w.heap.size < (w.alloc (.cells #[.int .i64 (m : Int), .slice ua un uc] 26)).heap.size) := ⟨by omega, by simp⟩
  clear h hr hA hpl hap
  obtain ⟨i0, hi, hz0, hz1, hz2⟩ := info_split Try.info3
  go_enter Try.func86, Try.ntmps86
  go_wp2_with fail
  generalize w.alloc (.cells #[.int .i64 (m : Int), .slice ua un uc] 26) = w1 at ST HF HBX HEND hbc hBb ⊢
  generalize w.heap.size = Bx at HBX hBb ⊢
  go_loopw [5, 6] (fun o i wr => ∃ k q : Nat, k ≤ m ∧ i = .int .i64 k ∧ q ≤ p + 3 * k ∧ Hid (MarkSt w1 wr bc ca cn cc q bs o k)) (fun _ i _ => m - (intOf i).toNat)
  case atStart => exact ⟨0, p, Nat.zero_le _, rfl, by omega, ST⟩
  case round =>
    obtain ⟨k, q, hk, rfl, hq, S0⟩ := hrel
    clear ST
    have hBx := (S0.out.kept.block Bx hBb.out.2 hBb.out.1).trans HBX.out
    have hB0 : wr.cell? ⟨Bx, 0, none⟩ = some (.int .i64 (m : Int)) := cell_of_row wr Bx 0 _ _ _ hBx
    clear hBx
    by_cases hlt : k < m
    · have hi1 : (k : Int) < (m : Int) := by omega
      go_wp2_with fail
      refine (pick_any 4 bc ca cn cc q bs _ S0.out.cur S0.out.bytes (by omega) hn (by omega) (by omega)).mono ?_
      rintro e v1 ⟨r, rfl, hr, hcur, ho⟩
      have S1 := hide (S0.out.only ho hcur HAP.out hbc)
      clear hcur ho S0 hB0
      go_wp2_with fail
      refine (most_any _ _ _).mono ?_
      rintro e v2 ⟨rfl, rfl⟩
      generalize mostI 0 ((r : Int) - 1) = x
      obtain ⟨xs, hown⟩ := S1.out.own
      have hsz := S1.out.kept.size
      have S3 := hide (fun v' W' (h1 : W'.ownsRow w1.heap.size 3 1 v' (k + 1) (xs.map (Value.int .i64) ++ [.int .i64 x])) (h2 : (v2.alloc (.cells #[.int .i64 x] 3)).grownBy W' u5.ownBlock) => (S1.out.alloc (.cells #[.int .i64 x] 3) HAP.out).append (hown.alloc _) h1 h2 hbc HF.out)
      have HO := hide (hown.alloc (.cells #[.int .i64 x] 3))
      clear hown S1
      go_wp2_with (at_builtin; refine wpList_append_own _ rfl (.tmp 13) (.tmp 18) 31 rfl w1.heap.size 3 i0 (.int .i64 0) 1 8 Try.underlying31 hi hz0 hz1 hz2 rfl (by decide) u5 k _ rfl HO.out ⟨v2.heap.size, 0, none⟩ 1 1 [.int .i64 x] rfl rfl (cell_one_new _ _ _) (by intro u hu; simp at hu; subst hu; rfl) (by unfold maxLen; omega) (by omega) (by simp; omega) ?_; intro v' W' r1 r2 _; have R := hide (S3.out v' W' r1 r2); clear r1 r2)
      go_roundw
      case rel => exact ⟨k + 1, q + 1, by omega, by go_num, by omega, R⟩
      case measure => simp [intOf]; omega
    · have hk' : k = m := by omega
      subst hk'
      go_wp2_with fail
      refine (one_any 30 bc ca cn cc q bs _ S0.out.cur S0.out.bytes (by omega) hn (by omega) (by omega)).mono ?_
      rintro e v2 ⟨b, rfl, hcur, ho⟩
      have S2 := hide (S0.out.only ho hcur HAP.out hbc)
      clear hcur ho S0 hB0
      by_cases hk0 : 0 < k
      rotate_left
      · have hkz : k = 0 := by omega
        subst hkz
        obtain ⟨xs, hown⟩ := S2.out.own
        have hu5 : Hid (u5 = .slice none 0 0 ∨ ∃ g c, u5 = .slice (some ⟨g, 0, none⟩) 0 c) := by
          rcases hown.2 with ⟨e, _⟩ | ⟨g, cap, cur, e, _⟩
          · exact .inl e
          · exact .inr ⟨g, cap, e⟩
        clear hown
        rcases hu5.out with rfl | ⟨g, c, rfl⟩
        all_goals cases b
        all_goals go_wp2_with fail
        all_goals go_ret
        all_goals exact HEND.out _ _ (S2.out.doneN (by omega) (by omega))
      · have hk1 : (0 : Int) < (k : Int) := by omega
        obtain ⟨g, cap, rfl, hg, hgl, ⟨z, hz⟩, hf⟩ := S2.out.form hk0
        cases b
        · go_wp2_with fail
          go_ret
          exact HEND.out _ _ (S2.out.doneN (by omega) (by omega))
        · go_wp2_with fail
          have S3 := hide (S2.out.alloc (.cells (cellsOf [50, 51, -1]) 3) HAP.out)
          refine (among_any 3 3 (some ⟨v2.heap.size, 0, none⟩) [50, 51, -1] bc ca cn cc (q + 1) bs (v2.alloc (.cells (cellsOf [50, 51, -1]) 3)) S3.out.cur S3.out.bytes (by omega) hn (by omega) (by omega) (row_new v2 _ 3 _ rfl rfl) (by intro _ x hx; obtain rfl := Option.some.inj hx; have := S2.out.cur.lt; simp; omega)).mono ?_
          rintro e v3 ⟨x, rfl, hx, hcur, ho⟩
          have S4 := hide (S3.out.only ho hcur HAP.out hbc)
          clear hz hf
          obtain ⟨g', cap', e', _, _, ⟨z, hz⟩, hf⟩ := S4.out.form hk0
          obtain ⟨rfl, rfl⟩ : g = g' ∧ cap = cap' := by simpa using e'
          have S5 := hide (S4.out.set0 hg x hbc HF.out)
          clear hcur ho S3 S2 hx e'
          go_wp2_with fail
          go_ret
          exact HEND.out _ _ (S5.out.doneN (by omega) (by omega))
end Go.Proofs.Ytdhnhpjcoeglmaa


/- The cursor's walked: a net in new memory and a mark of it, whatever the bytes; nothing that was there is written but the cursor. -/
namespace Go.Proofs.Ytdhnhpjcoeglmaa
open Go.RowKit
set_option maxRecDepth 10000

/-- How walked ends: what it draws stays while the cursor goes on. -/
def WkDr (bc : Nat) (ca : Option Addr) (cn cc p : Nat) (bs : List Int) (w : World) (e : Ending) (w' : World) : Prop :=
  ∃ (pl : Int) (ua : Option Addr) (k uc : Nat) (L : List (List Int)) (a : Option Addr) (n c : Nat) (xs : List Int) (p' : Nat), e = .returned (.tuple #[.agg #[.int .i64 pl, .slice ua k uc], .slice a n c]) ∧ (0 ≤ pl ∧ pl ≤ 17) ∧ k ≤ 61 ∧ sizeN k L ≤ 6400 ∧ n ≤ 60 ∧ p' ≤ p + 400 ∧
    (∀ W, w'.heap.size ≤ W.heap.size → (∀ q, w.heap.size ≤ q → q < w'.heap.size → W.heap[q]? = w'.heap[q]?) → Lists W ua (3 * k) L ∧ Row W a n xs) ∧ Cur w' bc ca cn cc p' ∧ RowB w' ca cn bs ∧ Kept bc w.heap.size w w'

theorem Try.size26w : (Try.prog.info? 26).map (·.size) = some 2 := by kernel_rfl

theorem exec_load_rowW {P : Program} {o : Oper} {a : Act} {w : World} (ty : TypeId) (x : Operand) (ho : o.op = .load ty x) (g : Nat) (hx : a.eval x = .pointer (some ⟨g, 0, none⟩)) (t : TypeId) (cs : Array Value) (fr : Nat × Nat) (d : TypeDesc) (hg : w.heap[g]? = some (.cells cs t fr))
    (hu : P.underlying ty = some d) (hd : (match d with | .struct _ | .array _ _ => true | _ => false) = true) (hi : (P.info? ty).map (·.size) = some cs.size) : (execOp a.eval o).run P w = .ok (.value (.agg cs)) w := by
  unfold execOp
  simp only [ho, hx, Instr.loadAt, Instr.sureAddr, Sem.run_bind, Sem.run_pure, Result.andThen_ok, run_loadVar_row w g t ty cs fr d hg hu hd hi]

theorem netW_res {fn : Func} {q u : Tmp} (hr : fn.results = #[.cell q 26, .tmp u]) (tmps : Array Value) (W : World) (b : Nat) (C : Array Value) (v : Value) (h4 : tmps.getD q undef = .pointer (some ⟨b, 0, none⟩)) (h5 : tmps.getD u undef = v)
    (hs : C.size = 2) (q4 : W.heap[b]? = some (.cells C 26 (0, 0))) : (results fn tmps).run Try.prog W = .ok (.tuple #[.agg C, v]) W := by
  refine (results_cell_tmp hr _ _ _).trans ?_
  rw [h4, h5]
  show ((loadVar 26 ⟨b, 0, none⟩).run Try.prog _).andThen _ = _
  rw [run_loadVar_row _ _ 26 26 C (0, 0) _ q4 Try.underlying26 rfl (by rw [hs]; exact Try.size26w)]
  rfl

/-- What the loop of walked keeps in mind. -/
structure WkSt (w : World) (B : Nat) (wr : World) (bc : Nat) (ca : Option Addr) (cn cc q : Nat) (bs : List Int) (R V g k cp : Nat) (pl : Int) : Prop where
  res : wr.heap[R]? = some (.cells #[.int .i64 0, .slice none 0 0] 26 (0, 0))
  box : wr.heap[V]? = some (.cells #[.int .i64 pl, .slice (some ⟨g, 0, none⟩) k cp] 26 (0, 0))
  net : NetR B wr g k
  cur : Cur wr bc ca cn cc q
  byt : RowB wr ca cn bs
  kept : Kept bc w.heap.size w wr

theorem WkSt.go {w wr wr' : World} {B bc cn cc q q' R V g k cp : Nat} {ca : Option Addr} {bs : List Int} {pl : Int} (h : WkSt w B wr bc ca cn cc q bs R V g k cp pl) (hk : Kept bc wr.heap.size wr wr') (hc : Cur wr' bc ca cn cc q') (hb : bc < B) (hR : R ≠ bc) (hV : V ≠ bc) (hap : Apart ca cn bc) : WkSt w B wr' bc ca cn cc q' bs R V g k cp pl :=
  ⟨(hk.block R (row_lt h.res) hR).trans h.res, (hk.block V (row_lt h.box) hV).trans h.box, h.net.kept hk hb, hc, h.byt.kept hk hap, h.kept.trans (hk.mono h.kept.size)⟩

theorem WkSt.grow {w wr wr' : World} {B bc cn cc q R V g k cp : Nat} {ca : Option Addr} {bs : List Int} {pl : Int} (h : WkSt w B wr bc ca cn cc q bs R V g k cp pl) (hk : Below wr.heap.size wr wr') (hb : bc < B) (hR : R ≠ bc) (hV : V ≠ bc) (hap : Apart ca cn bc) : WkSt w B wr' bc ca cn cc q bs R V g k cp pl :=
  h.go (Kept.of_below hk) (h.cur.below hk h.cur.lt) hb hR hV hap

theorem WkSt.cut {w wr : World} {B bc cn cc q R V g k cp : Nat} {ca : Option Addr} {bs : List Int} {pl : Int} (h : WkSt w B wr bc ca cn cc q bs R V g k cp pl) {j : Nat} (hj : j < 3 * k) {a : Option Addr} {n n' c : Nat} (hc : wr.cell? ⟨g, j, none⟩ = some (.slice a n c)) (hn : n' ≤ n) (hR : R ≠ g) (hV : V ≠ g) (hbc : bc ≠ g) (hwg : w.heap.size ≤ g) (hfar : 0 < cn → ∀ y, ca = some y → y.block ≠ g) :
    WkSt w B (wr.setCell ⟨g, j, none⟩ (.slice a n' c)) bc ca cn cc q bs R V g k cp pl := by
  have far : ∀ b, b ≠ g → (wr.setCell ⟨g, j, none⟩ (.slice a n' c)).heap[b]? = wr.heap[b]? := fun b hb => Below.heap_setCell _ _ _ _ hb
  obtain ⟨s, hs⟩ := h.cur
  refine ⟨(far R hR).trans h.res, (far V hV).trans h.box, h.net.set hj hc hn, ⟨s, (far bc hbc).trans hs⟩, ⟨h.byt.1, h.byt.2.1, ?_⟩, ⟨h.kept.os, h.kept.tape, h.kept.output, by rw [sizeV]; exact h.kept.size, fun b hb hne => (far b (by omega)).trans (h.kept.block b hb hne)⟩⟩
  rcases h.byt.2.2 with h0 | ⟨b, off, e, hl, hcc⟩
  · exact .inl h0
  · by_cases h0 : cn = 0
    · exact .inl h0
    · exact .inr ⟨b, off, e, by rw [sizeV]; exact hl, fun i hi => (World.cell?_of_block (a := ⟨b, off + i, none⟩) (far b (hfar (by omega) _ e))).trans (hcc i hi)⟩

theorem set2V {v : World} {b : Nat} {x0 x1 : Value} {T : TypeId} (h : v.heap[b]? = some (.cells #[x0, x1] T (0, 0))) (y0 y1 : Value) : ((v.setCell ⟨b, 0, none⟩ y0).setCell ⟨b, 1, none⟩ y1).heap[b]? = some (.cells #[y0, y1] T (0, 0)) := by
  have h1 := heap_setCell_same v b 0 _ _ y0 h
  have h2 := heap_setCell_same _ b 1 _ _ y1 h1
  simpa using h2
theorem set2V_far {v : World} {b q : Nat} (hq : q ≠ b) (y0 y1 : Value) : ((v.setCell ⟨b, 0, none⟩ y0).setCell ⟨b, 1, none⟩ y1).heap[q]? = v.heap[q]? :=
  (Below.heap_setCell _ _ _ _ (show q ≠ b by exact hq)).trans (Below.heap_setCell _ _ _ _ (show q ≠ b by exact hq))

set_option maxHeartbeats 4000000 in
theorem walked_draw (bc : Nat) (ca : Option Addr) (cn cc p : Nat) (bs : List Int) (w : World) (h : Cur w bc ca cn cc p) (hr : RowB w ca cn bs) (hap : Apart ca cn bc) (hp : p ≤ 500000) (hn : cn ≤ 1048576) :
    Calls Try.prog 113 #[.pointer (some ⟨bc, 0, none⟩)] w fun e w' => WkDr bc ca cn cc p bs w e w' := by
  have hbc := h.lt
  have hA := below_al w (.cells #[.int .i64 0, .slice none 0 0] 26)
  have HC := hide (h.below hA hbc)
  have HR := hide (hr.kept (Kept.of_below hA) hap)
  have HK := hide (Kept.of_below (bc := bc) hA)
  have HRES := hide (heap_alloc_new w (.cells #[.int .i64 0, .slice none 0 0] 26))
  have HAP := hide hap
  have hRb : w.heap.size ≠ bc := by omega
  have HFAR : Hid (0 < cn → ∀ y, ca = some y → y.block < w.heap.size) := hr.far
  clear h hr hA hap
  go_enter Try.func113, Try.ntmps113
  go_wp2_with fail
  refine (one_any 3 bc ca cn cc p bs _ HC.out HR.out (by omega) hn (by omega) (by omega)).mono ?_
  rintro e v1 ⟨b, rfl, hcur, ho⟩
  have HK1 := hide (HK.out.trans ((Kept.of_only ho).mono HK.out.size))
  have HR1 := hide (HR.out.keep ho HAP.out)
  have HRES1 := hide ((ho.block _ hRb).trans HRES.out)
  have HC1 := hide hcur
  have hz1 : w.heap.size < v1.heap.size := row_lt HRES1.out
  clear hcur ho HC HR HK HRES
  obtain ⟨q0, hq0⟩ : ∃ q, Hid (p + 1 = q) := ⟨_, rfl⟩
  have hqb : q0 ≤ p + 100 := by have := hq0.out; omega
  rw [hq0.out] at HC1
  generalize w.alloc (.cells #[.int .i64 0, .slice none 0 0] 26) = w1 at *
  clear w1
  cases b
  case' true =>
    go_wp2_with fail
    refine (flow_draw true bc ca cn cc q0 bs _ HC1.out HR1.out HAP.out (by omega) hn).mono ?_
    rintro e v2 ⟨fp, u, fk, cells, fs, ft, q1, rfl, hf1, hf2, hf3, hf4, hq1, hnet, hcur, hby, hkp⟩
    obtain ⟨fa, fc, FL, rfl, hfs, hfl⟩ := hnet.listsM (by omega) (by omega)
    have hA := below_al v2 (.cells #[.int .i64 (fp : Int), .slice fa fk fc, .int .i64 fs, .int .i64 ft] 157)
    have HKa := hide (HK1.out.trans (hkp.mono (by omega)))
    have HRa := hide ((hkp.block _ hz1 hRb).trans HRES1.out)
    have HBX := hide (heap_alloc_new v2 (.cells #[.int .i64 (fp : Int), .slice fa fk fc, .int .i64 fs, .int .i64 ft] 157))
    have HST := hide (startS_own (fp : Int) fs ft fa fk fc FL (v2.alloc (.cells #[.int .i64 (fp : Int), .slice fa fk fc, .int .i64 fs, .int .i64 ft] 157)) ((hfl v2 (Nat.le_refl _) (fun _ _ _ => rfl)).below hA) (by omega))
    have HFL := hide hfl
    have hbv : bc < v1.heap.size := HC1.out.lt
    have hvv : v1.heap.size ≤ v2.heap.size := hkp.size
    have HCa := hide hcur
    have HBa := hide hby
    have HAL := hide hA
    clear hnet hcur hby hkp hfl hA HC1 HR1 HK1 HRES1
    go_wp2_with fail
    refine HST.out.mono ?_
    rintro e v3 ⟨ma, mn, mc, rfl, hrow, hloc, hb3⟩
    have hb23 := HAL.out.trans (hb3.mono HAL.out.size)
    have hv23 := hb23.size
    have HR3 := hide ((hb23.block _ (by omega)).trans HRa.out)
    have HB3 := hide hb23
    have HRW := hide hrow
    have HLC : Hid (0 < mn → ∀ o, ma = some o → v1.heap.size ≤ o.block) := fun h0 o ho => Nat.le_trans (by have := HAL.out.size; omega) (hloc h0 o ho)
    have hml : mn ≤ 16 := by have h1 := hrow.1; have h2 := oneR_len (fp : Int) fk FL fs ft fs (fun h => (flow_num h).1.2); omega
    obtain ⟨⟨hd0, hd1, hd2, hd3⟩, _⟩ := cells4 (keep HBX.out hb3)
    have hr0 := cell_of_row v3 w.heap.size 0 _ _ _ HR3.out
    have hr1 := cell_of_row v3 w.heap.size 1 _ _ _ HR3.out
    have hf0 := frozen_of_row v3 w.heap.size 0 _ _ HR3.out
    have hf1 := frozen_of_row v3 w.heap.size 1 _ _ HR3.out
    simp at hr0 hr1
    have hRl := row_lt HR3.out
    clear HST hb3 hb23 hrow hloc HBX HRa
    by_cases hok : flowOk (fp : Int) fk FL fs ft = true
    · rw [hok]
      have hq1' : q1 ≤ p + 400 := by omega
      have hS2 := set2V HR3.out (.int .i64 (fp : Int)) (.slice fa fk fc)
      have far := fun q (hq : q ≠ w.heap.size) => set2V_far (v := v3) hq (.int .i64 (fp : Int)) (.slice fa fk fc)
      obtain ⟨y0, y1⟩ := cells2 hS2
      have HE : Hid (WkDr bc ca cn cc p bs w (.returned (.tuple #[.agg #[.int .i64 (fp : Int), .slice fa fk fc], .slice ma mn mc])) ((v3.setCell ⟨w.heap.size, 0, none⟩ (.int .i64 (fp : Int))).setCell ⟨w.heap.size, 1, none⟩ (.slice fa fk fc))) := by
        have hcur3 := HCa.out.below HB3.out HCa.out.lt
        obtain ⟨sd, hsd⟩ := hcur3
        have hq16 := (flow_num hok).1
        have hk3 := HKa.out.trans ((Kept.of_below (bc := bc) HB3.out).mono HKa.out.size)
        refine ⟨fp, fa, fk, fc, FL, ma, mn, mc, _, q1, rfl, ⟨by omega, by omega⟩, hf4, by omega, by omega, hq1', fun W hW1 hW => ⟨HFL.out W ?_ ?_, HRW.out.movedV HLC.out ?_ ?_⟩, ⟨sd, (far bc (Ne.symm hRb)).trans hsd⟩, ?_, ⟨hk3.os, hk3.tape, hk3.output, by simp only [sizeV]; exact hk3.size, fun b hb hne => (far b (by omega)).trans (hk3.block b hb hne)⟩⟩
        · have := hW1; simp only [sizeV] at this; omega
        · intro q h1 h2
          exact (hW q (by omega) (by simp only [sizeV]; omega)).trans ((far q (by omega)).trans (HB3.out.block q h2))
        · have := hW1; simp only [sizeV] at this; omega
        · intro q h1 h2
          exact (hW q (by omega) (by simp only [sizeV]; omega)).trans (far q (by omega))
        · have hby3 := HBa.out.kept (Kept.of_below HB3.out) HAP.out
          refine ⟨hby3.1, hby3.2.1, ?_⟩
          rcases hby3.2.2 with h0 | ⟨b, off, e, hl, hcc⟩
          · exact .inl h0
          · by_cases h0 : cn = 0
            · exact .inl h0
            · exact .inr ⟨b, off, e, by simp only [sizeV]; exact hl, fun i hi => (World.cell?_of_block (a := ⟨b, off + i, none⟩) (far b (by have := HFAR.out (by omega) _ e; simp at this; omega))).trans (hcc i hi)⟩
      clear hok HFL HCa HBa HKa HB3 HRW HLC HAL far hS2
      go_wp2_with fail
      refine bodyPost_ret (v := .tuple #[.agg #[.int .i64 (fp : Int), .slice fa fk fc], .slice ma mn mc]) (by simp [results, Try.results113, go_sem, y0, y1]) rfl ?_
      exact HE.out
    have hok' : flowOk (fp : Int) fk FL fs ft = false := by simpa using hok
    rw [hok']
    have HC1 := hide (HCa.out.below HB3.out HCa.out.lt)
    have HR1 := hide (HBa.out.kept (Kept.of_below HB3.out) HAP.out)
    have HK1 := hide (HKa.out.trans ((Kept.of_below (bc := bc) HB3.out).mono HKa.out.size))
    have HRES1 := HR3
    have hqb1 : q1 ≤ p + 200 := by omega
    clear hok hok' HFL HCa HBa HKa HB3 HRW HLC HAL HR3 hz1 hbv hvv hv23 hr0 hr1 hf0 hf1 hml hq0 hqb hq1
    have hqb := hqb1
    have hz1 : w.heap.size < v3.heap.size := hRl
    clear hqb1 hRl
    go_upto_region 6 with fail
    clear hd0 hd1 hd2 hd3
  case' false =>
    have hqb1 : q0 ≤ p + 200 := by omega
    clear hqb hq0
    have hqb := hqb1
    clear hqb1
    go_upto_region 6 with fail
  all_goals
    go_wp2_with fail
    refine (net_draw true bc ca cn cc _ bs _ HC1.out HR1.out HAP.out (by omega) hn).mono ?_
    rintro e va ⟨pl, u, k, cells, q2, rfl, hpl, hk1, hk5, hq2, hown, hcur, hby, hkp⟩
    obtain ⟨g, cp, rfl, hBg, hga, _⟩ := hown.form hk1
    have hA := below_al va (.cells #[.int .i64 pl, .slice (some ⟨g, 0, none⟩) k cp] 26)
    have hbB := HC1.out.lt
    have S0 : Hid (WkSt w _ (va.alloc (.cells #[.int .i64 pl, .slice (some ⟨g, 0, none⟩) k cp] 26)) bc ca cn cc q2 bs w.heap.size va.heap.size g k cp pl) :=
      ⟨(hA.block _ (by have := hkp.size; omega)).trans ((hkp.block _ hz1 hRb).trans HRES1.out), heap_alloc_new va _, (NetR.of_own hown).kept (Kept.of_below (bc := bc) hA) hbB, hcur.below hA hcur.lt, hby.kept (Kept.of_below hA) HAP.out, (HK1.out.trans (hkp.mono (by omega))).trans ((Kept.of_below (bc := bc) hA).mono (by have := hkp.size; omega))⟩
    have hVb : va.heap.size ≠ bc := by have := hcur.lt; omega
    have hVg : va.heap.size ≠ g := by omega
    have hRg : w.heap.size ≠ g := by omega
    have hVR : va.heap.size ≠ w.heap.size := by have := hkp.size; omega
    have hbg : bc ≠ g := by omega
    have hwg : w.heap.size ≤ g := by omega
    have HFG : Hid (0 < cn → ∀ y, ca = some y → y.block ≠ g) := fun h0 y hy => by have := HFAR.out h0 y hy; omega
    have hq3 : q2 ≤ p + 300 := by omega
    obtain ⟨hv0, hv1⟩ := cells2 S0.out.box
    clear hown hcur hby hkp hA HC1 HR1 HK1 HRES1 hqb hq2 hga
    go_wp2_with fail
    generalize va.alloc (.cells #[.int .i64 pl, .slice (some ⟨g, 0, none⟩) k cp] 26) = vb at *
    generalize va.heap.size = V at *
    clear hv0 hv1
    go_loopw [28] (fun i wr => ∃ j q : Nat, j ≤ k ∧ i = .int .i64 j ∧ q ≤ p + 300 + j ∧ Hid (WkSt w _ wr bc ca cn cc q bs w.heap.size V g k cp pl)) (fun i _ => k - (intOf i).toNat)
    case atStart => exact ⟨0, q2, Nat.zero_le _, rfl, by omega, S0⟩
    case round =>
      obtain ⟨j, q, hj, rfl, hq, S1⟩ := hrel
      clear S0
      by_cases hlt : j < k
      rotate_left
      · have hnl : ¬ (j : Int) < (k : Int) := by omega
        have S2 := hide (S1.out.grow (Below.refl _ wr).drew hbB hRb hVb HAP.out)
        clear S1 hlt
        go_upto_region 13 with fail
        refine wp_region_held_drew (S := fun W => W.heap[V]? = some (.cells #[.int .i64 pl, .slice (some ⟨g, 0, none⟩) k cp] 26 (0, 0))) (by kernel_rfl) S2.out.box (fun hHeld => ?_)
        have hSv : (fun W : World => W.heap[V]? = some (.cells #[.int .i64 pl, .slice (some ⟨g, 0, none⟩) k cp] 26 (0, 0))) wr.drew := S2.out.box
        clear hHeld
        generalize wr.drew = vd at *
        refine take_yes (i := 0) (some 57) (.agg #[.int .i64 pl, .slice (some ⟨g, 0, none⟩) k cp]) rfl rfl (by kernel_rfl) (by kernel_rfl) (by kernel_rfl) (fun _ _ _ h => h) (by rfl) ?_ (by assumption) ?_
        · intro W' hSw
          exact exec_load_rowW 26 _ rfl _ rfl 26 _ _ _ hSw Try.underlying26 rfl Try.size26w
        simp only [Act.put, List.setIfInBounds_toArray, List.set_cons_zero, List.set_cons_succ]
        refine take_yes (i := 1) (some 58) (.pointer (some ⟨bc, 0, none⟩)) rfl rfl (by kernel_rfl) (by kernel_rfl) (by kernel_rfl) (fun _ _ _ h => h) (by rfl) ?_ (by assumption) ?_
        · intro W' hSw
          go_simp
        simp only [Act.put, List.setIfInBounds_toArray, List.set_cons_zero, List.set_cons_succ]
        refine take_yes (i := 2) (some 59) (.agg #[.int .i64 pl, .slice (some ⟨g, 0, none⟩) k cp]) rfl rfl (by kernel_rfl) (by kernel_rfl) (by kernel_rfl) (fun _ _ _ h => h) (by rfl) ?_ (by assumption) ?_
        · intro W' hSw
          exact exec_load_rowW 26 _ rfl _ rfl 26 _ _ _ hSw Try.underlying26 rfl Try.size26w
        simp only [Act.put, List.setIfInBounds_toArray, List.set_cons_zero, List.set_cons_succ]
        refine call_next (i := 3) (some 60) rfl rfl (by kernel_rfl) (by rfl) 86 _ _ _ rfl Try.func86 (by decide) rfl #[.pointer (some ⟨bc, 0, none⟩), .agg #[.int .i64 pl, .slice (some ⟨g, 0, none⟩) k cp]] (mapw2 _ _ _ _ _ rfl rfl) _ (markOf_draw pl (some ⟨g, 0, none⟩) k cp bc ca cn cc q bs vd S2.out.cur S2.out.byt HAP.out (by omega) hn hpl) ?_
        rintro e ve ⟨ma, mn, mc, mxs, q5, rfl, hn18, hq5, hrow, hloc, hcur, hby, hkp⟩
        have S3 := hide (S2.out.go hkp hcur hbB hRb hVb HAP.out)
        refine ⟨_, rfl, S3.out.box, fun _ => ?_⟩
        simp only [Act.put, List.setIfInBounds_toArray, List.set_cons_zero, List.set_cons_succ]
        have hg0 := S3.out.res
        have hnone : (#[.int .i64 pl, .slice (some ⟨g, 0, none⟩) k cp] : Array Value).all (·.oneCell') = true := by simp [Value.oneCell']
        have hS5 : (fun W : World => W.heap[V]? = some (.cells #[.int .i64 pl, .slice (some ⟨g, 0, none⟩) k cp] 26 (0, 0))) (ve.setRow w.heap.size #[.int .i64 pl, .slice (some ⟨g, 0, none⟩) k cp]) := (setRow_otherW _ hVR _).trans S3.out.box
        obtain ⟨L, hLs, hLL⟩ := S3.out.net.listsM hk5
        have hvs := hkp.size
        have hRl := row_lt hg0
        have hgs := S2.out.net.lt
        have HE : Hid (WkDr bc ca cn cc p bs w (.returned (.tuple #[.agg #[.int .i64 pl, .slice (some ⟨g, 0, none⟩) k cp], .slice ma mn mc])) (ve.setRow w.heap.size #[.int .i64 pl, .slice (some ⟨g, 0, none⟩) k cp])) := by
          obtain ⟨sd, hsd⟩ := S3.out.cur
          have far : ∀ b, b ≠ w.heap.size → (ve.setRow w.heap.size #[.int .i64 pl, .slice (some ⟨g, 0, none⟩) k cp]).heap[b]? = ve.heap[b]? := fun b hb => setRow_otherW _ hb _
          have hsz : (ve.setRow w.heap.size #[.int .i64 pl, .slice (some ⟨g, 0, none⟩) k cp]).heap.size = ve.heap.size := by simp [World.setRow]
          have hk3 := S3.out.kept
          refine ⟨pl, some ⟨g, 0, none⟩, k, cp, L, ma, mn, mc, mxs, q5, rfl, ⟨by omega, by omega⟩, by omega, by omega, by omega, by omega, fun W hW1 hW => ⟨hLL W ?_ ?_, hrow.movedV hloc ?_ ?_⟩, ⟨sd, (far bc (Ne.symm hRb)).trans hsd⟩, ?_, ⟨hk3.os, hk3.tape, hk3.output, by rw [hsz]; exact hk3.size, fun b hb hne => (far b (by omega)).trans (hk3.block b hb hne)⟩⟩
          · have := hW1; omega
          · intro x h1 h2
            exact (hW x (by omega) (by omega)).trans (far x (by omega))
          · have := hW1; omega
          · intro x h1 h2
            exact (hW x (by omega) (by omega)).trans (far x (by omega))
          · have hby3 := S3.out.byt
            refine ⟨hby3.1, hby3.2.1, ?_⟩
            rcases hby3.2.2 with h0 | ⟨b, off, e, hl, hcc⟩
            · exact .inl h0
            · by_cases h0 : cn = 0
              · exact .inl h0
              · exact .inr ⟨b, off, e, by rw [hsz]; exact hl, fun i hi => (World.cell?_of_block (a := ⟨b, off + i, none⟩) (far b (by have := HFAR.out (by omega) _ e; simp at this; omega))).trans (hcc i hi)⟩
        have hz5 := setRow_sameW hg0 #[.int .i64 pl, .slice (some ⟨g, 0, none⟩) k cp]
        clear hrow hloc hcur hby hkp hLL
        refine store_next (i := 4) rfl rfl (by kernel_rfl) (by rfl) 26 _ _ rfl w.heap.size #[.int .i64 pl, .slice (some ⟨g, 0, none⟩) k cp] rfl rfl 26 _ hg0 Try.size26w rfl hnone hS5 (fun _ => ?_)
        refine take_yes (i := 5) (some 3) (.slice ma mn mc) rfl rfl (by kernel_rfl) (by kernel_rfl) (by kernel_rfl) (fun _ _ _ h => h) (by rfl) ?_ (by assumption) ?_
        · intro W' hSw
          go_simp
        simp only [Act.put, List.setIfInBounds_toArray, List.set_cons_zero, List.set_cons_succ]
        refine wpAnyH_done (by kernel_rfl) ?_ _
        go_wp2_with fail
        refine bodyPost_ret (v := .tuple #[.agg #[.int .i64 pl, .slice (some ⟨g, 0, none⟩) k cp], .slice ma mn mc]) ?_ rfl HE.out
        exact netW_res Try.results113 _ _ w.heap.size _ _ rfl rfl rfl hz5
      obtain ⟨a0, n0, c0, xs0, h00, _, _, _, _, _, _⟩ := S1.out.net.cell (show j * 3 < 3 * k by omega)
      obtain ⟨a1, n1, c1, xs1, h10, h1f, h12, h1c, h1m, h1r, h1l⟩ := S1.out.net.cell (show j * 3 + 1 < 3 * k by omega)
      obtain ⟨a2, n2, c2, xs2, h20, _, _, _, _, _, _⟩ := S1.out.net.cell (show j * 3 + 2 < 3 * k by omega)
      have hjk : (j : Int) < (k : Int) := by omega
      have hA := below_al wr (.cells #[.slice a0 n0 c0, .slice a1 n1 c1, .slice a2 n2 c2] 78)
      have S2 := hide (S1.out.grow hA hbB hRb hVb HAP.out)
      have HT9 := hide (heap_alloc_new wr (.cells #[.slice a0 n0 c0, .slice a1 n1 c1, .slice a2 n2 c2] 78))
      have hT9b : wr.heap.size ≠ bc := by have := S1.out.cur.lt; omega
      have hT9g : wr.heap.size ≠ g := by have := S1.out.net.lt; omega
      have H1R := hide h1r
      have HX2 := hide ((hA.cell (p := ⟨g, j * 3 + 1, none⟩) (by have := S1.out.net.lt; exact this)).trans h10)
      clear S1 hA h1r
      by_cases hlt1 : n0 < n1
      rotate_left
      · have hni : ¬ (n0 : Int) < (n1 : Int) := by omega
        clear H1R h1l HT9 HX2
        go_wp2_with fail
        go_roundw
        case rel => exact ⟨j + 1, q, by omega, by go_num, by omega, S2⟩
        case measure => simp [intOf]; omega
      have hni : (n0 : Int) < (n1 : Int) := by omega
      obtain ⟨g1, o1, rfl⟩ : ∃ g1 o1, a1 = some ⟨g1, o1, none⟩ := by
        rcases H1R.out.2 with h0 | ⟨b, off, e, _⟩
        · omega
        · exact ⟨b, off, e⟩
      go_wp2_with fail
      refine (one_any 6 bc ca cn cc q bs _ S2.out.cur S2.out.byt (by omega) hn (by omega) (by omega)).mono ?_
      rintro e v5 ⟨b6, rfl, hcur, ho⟩
      have S3 := hide (S2.out.go (Kept.of_only ho) hcur hbB hRb hVb HAP.out)
      have HT5 := hide ((ho.block _ hT9b).trans HT9.out)
      have HX3 := hide ((World.cell?_of_block (a := ⟨g, j * 3 + 1, none⟩) (ho.block g (fun e => hbg e.symm))).trans HX2.out)
      clear HX2
      clear hcur S2 HT9 h00 h10 h20
      cases b6
      rotate_left
      · clear ho H1R h1l HT5 HX3
        go_wp2_with fail
        go_roundw
        case rel => exact ⟨j + 1, q + 1, by omega, by go_num, by omega, S3⟩
        case measure => simp [intOf]; omega
      generalize wr.heap.size = T9 at *
      clear ho
      go_upto_region 11 with fail
      have hn0c : (n0 : Int) ≤ (c1 : Int) := by omega
      have S4 := hide (S3.out.grow (Below.refl _ v5).drew hbB hRb hVb HAP.out)
      have HT6 := hide (show v5.drew.heap[T9]? = some (.cells #[.slice a0 n0 c0, .slice (some ⟨g1, o1, none⟩) n1 c1, .slice a2 n2 c2] 78 (0, 0)) from HT5.out)
      have hSv : (fun W : World => W.cell? ⟨V, 1, none⟩ = some (.slice (some ⟨g, 0, none⟩) k cp) ∧ W.cell? ⟨T9, 0, none⟩ = some (.slice a0 n0 c0) ∧ W.cell? ⟨T9, 1, none⟩ = some (.slice (some ⟨g1, o1, none⟩) n1 c1)) v5.drew := ⟨(cells2 S4.out.box).2, (cell_of_row _ T9 0 _ _ _ HT6.out).trans rfl, (cell_of_row _ T9 1 _ _ _ HT6.out).trans rfl⟩
      refine wp_region_held_drew (S := fun W => W.cell? ⟨V, 1, none⟩ = some (.slice (some ⟨g, 0, none⟩) k cp) ∧ W.cell? ⟨T9, 0, none⟩ = some (.slice a0 n0 c0) ∧ W.cell? ⟨T9, 1, none⟩ = some (.slice (some ⟨g1, o1, none⟩) n1 c1)) (by kernel_rfl) hSv (fun hHeld => ?_)
      have HX4 : Hid (v5.drew.cell? ⟨g, j * 3 + 1, none⟩ = some (.slice (some ⟨g1, o1, none⟩) n1 c1)) := HX3.out
      clear hHeld S3 HT5 HX3
      generalize v5.drew = v6 at *
      refine take_yes (i := 0) (some 45) (.pointer (some ⟨V, 1, none⟩)) rfl rfl (by kernel_rfl) (by kernel_rfl) (by kernel_rfl) (fun _ _ _ h => h) (by rfl) ?_ (by assumption) ?_
      · intro W' hSw
        obtain ⟨hz0, hz1, hz2⟩ := hSw
        go_simp
      simp only [Act.put, List.setIfInBounds_toArray, List.set_cons_zero, List.set_cons_succ]
      refine take_yes (i := 1) (some 46) (.slice (some ⟨g, 0, none⟩) k cp) rfl rfl (by kernel_rfl) (by kernel_rfl) (by kernel_rfl) (fun _ _ _ h => h) (by rfl) ?_ (by assumption) ?_
      · intro W' hSw
        obtain ⟨hz0, hz1, hz2⟩ := hSw
        go_simp
      simp only [Act.put, List.setIfInBounds_toArray, List.set_cons_zero, List.set_cons_succ]
      refine take_yes (i := 2) (some 47) (.int .i64 (j : Int)) rfl rfl (by kernel_rfl) (by kernel_rfl) (by kernel_rfl) (fun _ _ _ h => h) (by rfl) ?_ (by assumption) ?_
      · intro W' hSw
        obtain ⟨hz0, hz1, hz2⟩ := hSw
        go_simp
      simp only [Act.put, List.setIfInBounds_toArray, List.set_cons_zero, List.set_cons_succ]
      refine take_yes (i := 3) (some 48) (.pointer (some ⟨T9, 1, none⟩)) rfl rfl (by kernel_rfl) (by kernel_rfl) (by kernel_rfl) (fun _ _ _ h => h) (by rfl) ?_ (by assumption) ?_
      · intro W' hSw
        obtain ⟨hz0, hz1, hz2⟩ := hSw
        go_simp
      simp only [Act.put, List.setIfInBounds_toArray, List.set_cons_zero, List.set_cons_succ]
      refine take_yes (i := 4) (some 49) (.slice (some ⟨g1, o1, none⟩) n1 c1) rfl rfl (by kernel_rfl) (by kernel_rfl) (by kernel_rfl) (fun _ _ _ h => h) (by rfl) ?_ (by assumption) ?_
      · intro W' hSw
        obtain ⟨hz0, hz1, hz2⟩ := hSw
        go_simp
      simp only [Act.put, List.setIfInBounds_toArray, List.set_cons_zero, List.set_cons_succ]
      refine take_yes (i := 5) (some 50) (.pointer (some ⟨T9, 0, none⟩)) rfl rfl (by kernel_rfl) (by kernel_rfl) (by kernel_rfl) (fun _ _ _ h => h) (by rfl) ?_ (by assumption) ?_
      · intro W' hSw
        obtain ⟨hz0, hz1, hz2⟩ := hSw
        go_simp
      simp only [Act.put, List.setIfInBounds_toArray, List.set_cons_zero, List.set_cons_succ]
      refine take_yes (i := 6) (some 51) (.slice a0 n0 c0) rfl rfl (by kernel_rfl) (by kernel_rfl) (by kernel_rfl) (fun _ _ _ h => h) (by rfl) ?_ (by assumption) ?_
      · intro W' hSw
        obtain ⟨hz0, hz1, hz2⟩ := hSw
        go_simp
      simp only [Act.put, List.setIfInBounds_toArray, List.set_cons_zero, List.set_cons_succ]
      refine take_yes (i := 7) (some 52) (.int .i64 (n0 : Int)) rfl rfl (by kernel_rfl) (by kernel_rfl) (by kernel_rfl) (fun _ _ _ h => h) (by rfl) ?_ (by assumption) ?_
      · intro W' hSw
        obtain ⟨hz0, hz1, hz2⟩ := hSw
        go_simp
      simp only [Act.put, List.setIfInBounds_toArray, List.set_cons_zero, List.set_cons_succ]
      refine take_yes (i := 8) (some 53) (.slice (some ⟨g1, o1, none⟩) n0 c1) rfl rfl (by kernel_rfl) (by kernel_rfl) (by kernel_rfl) (fun _ _ _ h => h) (by rfl) ?_ (by assumption) ?_
      · intro W' hSw
        obtain ⟨hz0, hz1, hz2⟩ := hSw
        go_simp
      simp only [Act.put, List.setIfInBounds_toArray, List.set_cons_zero, List.set_cons_succ]
      refine take_yes (i := 9) (some 54) (.pointer (some ⟨g, j * 3, none⟩)) rfl rfl (by kernel_rfl) (by kernel_rfl) (by kernel_rfl) (fun _ _ _ h => h) (by rfl) ?_ (by assumption) ?_
      · intro W' hSw
        obtain ⟨hz0, hz1, hz2⟩ := hSw
        go_simp
      simp only [Act.put, List.setIfInBounds_toArray, List.set_cons_zero, List.set_cons_succ]
      refine take_yes (i := 10) (some 55) (.pointer (some ⟨g, j * 3 + 1, none⟩)) rfl rfl (by kernel_rfl) (by kernel_rfl) (by kernel_rfl) (fun _ _ _ h => h) (by rfl) ?_ (by assumption) ?_
      · intro W' hSw
        obtain ⟨hz0, hz1, hz2⟩ := hSw
        go_simp
      simp only [Act.put, List.setIfInBounds_toArray, List.set_cons_zero, List.set_cons_succ]
      obtain ⟨C, hC, hCs, hCv⟩ := S4.out.net.out
      have hj1 : j * 3 + 1 < C.size := by omega
      have S5 := hide (S4.out.cut (j := j * 3 + 1) (by omega) HX4.out (n' := n0) (by omega) hRg hVg hbg hwg HFG.out)
      have farc : ∀ b o, b ≠ g → (v6.setCell ⟨g, j * 3 + 1, none⟩ (.slice (some ⟨g1, o1, none⟩) n0 c1)).cell? ⟨b, o, none⟩ = v6.cell? ⟨b, o, none⟩ := fun b o hb => World.cell?_of_block (a := ⟨b, o, none⟩) (Below.heap_setCell _ _ _ _ hb)
      have hS6 : (fun W : World => W.cell? ⟨V, 1, none⟩ = some (.slice (some ⟨g, 0, none⟩) k cp) ∧ W.cell? ⟨T9, 0, none⟩ = some (.slice a0 n0 c0) ∧ W.cell? ⟨T9, 1, none⟩ = some (.slice (some ⟨g1, o1, none⟩) n1 c1)) (v6.setCell ⟨g, j * 3 + 1, none⟩ (.slice (some ⟨g1, o1, none⟩) n0 c1)) := ⟨(farc _ _ hVg).trans hSv.1, (farc _ _ hT9g).trans hSv.2.1, (farc _ _ hT9g).trans hSv.2.2⟩
      refine store_one_next (i := 11) rfl rfl (by kernel_rfl) (by rfl) 31 _ _ rfl g (j * 3 + 1) (some ⟨g1, o1, none⟩) n0 c1 rfl rfl C 78 hC hj1 (by kernel_rfl) hS6 (fun _ => ?_)
      refine wpAnyH_done (by kernel_rfl) ?_ _
      clear hC hCs hCv hj1 farc hS6 hSv HX4 S4 HT6 H1R h1l
      generalize v6.setCell ⟨g, j * 3 + 1, none⟩ (.slice (some ⟨g1, o1, none⟩) n0 c1) = v7 at *
      go_wp2_with fail
      go_roundw
      case rel => exact ⟨j + 1, q + 1, by omega, by go_num, by omega, S5⟩
      case measure => simp [intOf]; omega
end Go.Proofs.Ytdhnhpjcoeglmaa


/- DrawFire: a net, a list and a number, whatever the bytes; nothing that was there is written. -/
namespace Go.Proofs.Ytdhnhpjcoeglmaa
open Go.RowKit
set_option maxRecDepth 10000

/-- How DrawFire ends. -/
def FireDr (w : World) (e : Ending) (w' : World) : Prop :=
  ∃ (pl : Int) (a : Option Addr) (k c : Nat) (L : List (List Int)) (b : Option Addr) (n d : Nat) (xs : List Int) (t : Int), e = .returned (.tuple #[.agg #[.int .i64 pl, .slice a k c], .slice b n d, .int .i64 t]) ∧ (0 ≤ pl ∧ pl ≤ 17) ∧ (1 ≤ k ∧ k ≤ 5) ∧ Lists w' a (3 * k) L ∧ sizeN k L ≤ 35 ∧ n ≤ 18 ∧ Row w' b n xs ∧ (-1 ≤ t ∧ t ≤ 5) ∧ Below w.heap.size w w'

theorem Row.far {w w' : World} {a : Option Addr} {n : Nat} {xs : List Int} (h : Row w a n xs) (hs : w.heap.size ≤ w'.heap.size) (hk : ∀ x, 0 < n → a = some x → x.block < w.heap.size → w'.heap[x.block]? = w.heap[x.block]?) : Row w' a n xs := by
  refine ⟨h.1, ?_⟩
  rcases h.2 with h0 | ⟨b, off, e, hl, hc⟩
  · exact .inl h0
  · by_cases h0 : n = 0
    · exact .inl h0
    · exact .inr ⟨b, off, e, Nat.lt_of_lt_of_le hl hs, fun i hi => (World.cell?_of_block (a := ⟨b, off + i, none⟩) (hk ⟨b, off, none⟩ (by omega) e hl)).trans (hc i hi)⟩

theorem keepK2 {W W' : World} {bc V : Nat} {x y : Value} (hk : Kept bc W.heap.size W W') (hne : V ≠ bc) (h : W.cell? ⟨V, 0, none⟩ = some x ∧ W.cell? ⟨V, 1, none⟩ = some y) : W'.cell? ⟨V, 0, none⟩ = some x ∧ W'.cell? ⟨V, 1, none⟩ = some y := ⟨keepK hk hne h.1, keepK hk hne h.2⟩
theorem keepO2 {W W' : World} {bc V : Nat} {x y : Value} (hk : OnlyC bc W W') (hne : V ≠ bc) (h : W.cell? ⟨V, 0, none⟩ = some x ∧ W.cell? ⟨V, 1, none⟩ = some y) : W'.cell? ⟨V, 0, none⟩ = some x ∧ W'.cell? ⟨V, 1, none⟩ = some y := keepK2 (Kept.of_only hk) hne h
theorem keepS2 {W : World} {V R : Nat} {x y u v : Value} (hne : V ≠ R) (h : W.cell? ⟨V, 0, none⟩ = some x ∧ W.cell? ⟨V, 1, none⟩ = some y) : ((W.setCell ⟨R, 0, none⟩ u).setCell ⟨R, 1, none⟩ v).cell? ⟨V, 0, none⟩ = some x ∧ ((W.setCell ⟨R, 0, none⟩ u).setCell ⟨R, 1, none⟩ v).cell? ⟨V, 1, none⟩ = some y := by
  have far : ∀ o, ((W.setCell ⟨R, 0, none⟩ u).setCell ⟨R, 1, none⟩ v).cell? ⟨V, o, none⟩ = W.cell? ⟨V, o, none⟩ := fun o => by
    rw [World.cell?_setCell_far _ _ _ _ (fun e => hne e.symm), World.cell?_setCell_far _ _ _ _ (fun e => hne e.symm)]
  exact ⟨(far 0).trans h.1, (far 1).trans h.2⟩

end Go.Proofs.Ytdhnhpjcoeglmaa
