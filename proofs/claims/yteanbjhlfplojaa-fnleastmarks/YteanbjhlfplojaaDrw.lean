/- What the cursor's mark and the Draw functions of chapter 1 answer: some number of places in 0..17 and some lists in new memory, of at most eighteen numbers, whatever the bytes; nothing that was there is written. -/
import Derived.Test.YteanbjhlfplojaaCur
namespace Go.Proofs.Yteanbjhlfplojaa
open Go.RowKit

theorem ownsRow_only {w w' : World} {B bc : Nat} {v : Value} {n : Nat} {l : List Value} (h : w.ownsRow B 3 1 v n l) (ho : OnlyC bc w w') (hb : bc < B) : w'.ownsRow B 3 1 v n l := by
  refine ⟨h.1, ?_⟩
  rcases h.2 with h0 | ⟨g, cap, cur, hv, hB, hh, r⟩
  · exact .inl h0
  · exact .inr ⟨g, cap, cur, hv, hB, (ho.block g (by omega)).trans hh, r⟩

/-- What holds while a mark is drawn: w ahead of the call, v now; k numbers have been laid into o. -/
structure MarkSt (w v : World) (bc : Nat) (ca : Option Addr) (cn cc p : Nat) (bs : List Int) (o : Value) (k : Nat) : Prop where
  own : ∃ xs : List Int, v.ownsRow w.heap.size 3 1 o k (xs.map (Value.int .i64))
  cur : Cur v bc ca cn cc p
  bytes : RowB v ca cn bs
  kept : Kept bc w.heap.size w v

theorem MarkSt.only {w v v' : World} {bc : Nat} {ca : Option Addr} {cn cc p p' : Nat} {bs : List Int} {o : Value} {k : Nat} (h : MarkSt w v bc ca cn cc p bs o k) (ho : OnlyC bc v v') (hc : Cur v' bc ca cn cc p') (hap : Apart ca cn bc) (hb : bc < w.heap.size) :
    MarkSt w v' bc ca cn cc p' bs o k := by
  obtain ⟨xs, hx⟩ := h.own
  exact ⟨⟨xs, ownsRow_only hx ho hb⟩, hc, h.bytes.keep ho hap, h.kept.trans (Kept.of_only ho)⟩

theorem MarkSt.alloc {w v : World} {bc : Nat} {ca : Option Addr} {cn cc p : Nat} {bs : List Int} {o : Value} {k : Nat} (h : MarkSt w v bc ca cn cc p bs o k) (ob : Obj) (hap : Apart ca cn bc) :
    MarkSt w (v.alloc ob) bc ca cn cc p bs o k := by
  obtain ⟨xs, hx⟩ := h.own
  have hb := (Below.refl v.heap.size v).alloc (Nat.le_refl _) ob
  exact ⟨⟨xs, hx.alloc ob⟩, h.cur.below hb h.cur.lt, h.bytes.kept (Kept.of_below hb) hap, h.kept.trans ((Kept.of_below hb).mono h.kept.size)⟩

theorem MarkSt.append {w v v' : World} {bc : Nat} {ca : Option Addr} {cn cc p : Nat} {bs : List Int} {o o' : Value} {k : Nat} {xs : List Int} {x : Int} (h : MarkSt w v bc ca cn cc p bs o k) (hx : v.ownsRow w.heap.size 3 1 o k (xs.map (Value.int .i64)))
    (hn : v'.ownsRow w.heap.size 3 1 o' (k + 1) (xs.map (Value.int .i64) ++ [.int .i64 x])) (hg : v.grownBy v' o.ownBlock) (hb : bc < w.heap.size) (hfar : 0 < cn → ∀ y, ca = some y → y.block < w.heap.size) :
    MarkSt w v' bc ca cn cc p bs o' (k + 1) := by
  have hbl : Below w.heap.size v v' := by
    refine (Below.refl w.heap.size v).grown hg h.kept.size fun j hj => ?_
    exact (hx.lt j hj).1
  refine ⟨⟨xs ++ [x], by rw [List.map_append]; exact hn⟩, h.cur.below hbl hb, ?_, h.kept.trans (Kept.of_below hbl)⟩
  refine ⟨h.bytes.1, h.bytes.2.1, ?_⟩
  rcases h.bytes.2.2 with h0 | ⟨b, off, e, hl, hc⟩
  · exact .inl h0
  · exact .inr ⟨b, off, e, Nat.lt_of_lt_of_le hl hbl.size, fun i hi => (World.cell?_of_block (hbl.block b (hfar (by omega) _ e))).trans (hc i hi)⟩

/-- How mark ends. -/
def MarkEnd (bc : Nat) (ca : Option Addr) (cn cc p : Nat) (bs : List Int) (w : World) (e : Ending) (w' : World) : Prop :=
  ∃ a n c xs p', e = .returned (.slice a n c) ∧ n ≤ 18 ∧ p' ≤ p + 60 ∧ Row w' a n xs ∧ Apart a n bc ∧ Cur w' bc ca cn cc p' ∧ RowB w' ca cn bs ∧ Kept bc w.heap.size w w'

theorem ownsRow_row' {B : Nat} {w : World} {v : Value} {n : Nat} {l : List Int} (hown : w.ownsRow B 3 1 v n (l.map (Value.int .i64))) : ∃ a c, v = .slice a n c ∧ Row w a n l := by
  have hl : l.length = n := by have := hown.1; simpa using this
  rcases hown.2 with ⟨rfl, rfl⟩ | ⟨g, cap, cur, rfl, hb, hh, hnc, _, hsz, ht⟩
  · exact ⟨none, 0, rfl, hl, .inl rfl⟩
  · refine ⟨_, cap, rfl, hl, .inr ⟨g, 0, rfl, (Array.getElem?_eq_some_iff.mp hh).1, fun i hi => ?_⟩⟩
    rw [cell_of_row w g (0 + i) _ _ _ hh, Nat.zero_add]
    have e1 : (cur.toList.take (n * 1))[i]? = some (.int .i64 (l.getD i 0)) := by
      rw [ht]; simp [List.getElem?_map, List.getElem?_eq_getElem (show i < l.length by omega)]
    rw [List.getElem?_take_of_lt (by omega)] at e1
    simpa using e1

theorem MarkSt.done {w v : World} {bc : Nat} {ca : Option Addr} {cn cc p q : Nat} {bs : List Int} {o : Value} {k : Nat} (h : MarkSt w v bc ca cn cc q bs o k) (hk : k ≤ 18) (hq : q ≤ p + 60) (hb : bc < w.heap.size) : MarkEnd bc ca cn cc p bs w (.returned o) v := by
  obtain ⟨xs, hx⟩ := h.own
  have hlt := hx.lt
  obtain ⟨a, c, rfl, hr⟩ := ownsRow_row' hx
  refine ⟨a, k, c, xs, q, rfl, hk, hq, hr, fun _ x hx => ?_, h.cur, h.bytes, h.kept⟩
  subst hx
  have := (hlt x.block rfl).1
  omega

/-- .. and the list lies in new memory. -/
def MarkEndW (bc : Nat) (ca : Option Addr) (cn cc p : Nat) (bs : List Int) (w : World) (e : Ending) (w' : World) : Prop :=
  ∃ a n c xs p', e = .returned (.slice a n c) ∧ n ≤ 18 ∧ p' ≤ p + 60 ∧ Row w' a n xs ∧ (0 < n → ∀ x, a = some x → w.heap.size ≤ x.block) ∧ Cur w' bc ca cn cc p' ∧ RowB w' ca cn bs ∧ Kept bc w.heap.size w w'

theorem MarkSt.doneW {w v : World} {bc : Nat} {ca : Option Addr} {cn cc p q : Nat} {bs : List Int} {o : Value} {k : Nat} (h : MarkSt w v bc ca cn cc q bs o k) (hk : k ≤ 18) (hq : q ≤ p + 60) (_hb : bc < w.heap.size) : MarkEndW bc ca cn cc p bs w (.returned o) v := by
  obtain ⟨xs, hx⟩ := h.own
  have hlt := hx.lt
  obtain ⟨a, c, rfl, hr⟩ := ownsRow_row' hx
  refine ⟨a, k, c, xs, q, rfl, hk, hq, hr, fun _ x hx => ?_, h.cur, h.bytes, h.kept⟩
  subst hx
  exact (hlt x.block rfl).1

set_option maxHeartbeats 1000000 in
theorem mark_drawW (m : Nat) (bc : Nat) (ca : Option Addr) (cn cc p : Nat) (bs : List Int) (w : World) (h : Cur w bc ca cn cc p) (hr : RowB w ca cn bs) (hap : Apart ca cn bc) (hfar : 0 < cn → ∀ y, ca = some y → y.block < w.heap.size) (hp : p ≤ 900000) (hn : cn ≤ 1048576) (hm : m ≤ 17) :
    Calls Try.prog 21 #[.pointer (some ⟨bc, 0, none⟩), .int .i64 (m : Int)] w fun e w' => MarkEndW bc ca cn cc p bs w e w' := by
  have hbc := h.lt
  have ST := hide (MarkSt.mk (w := w) (o := .slice none 0 0) ⟨[], World.ownsRow_nil _ _ _ _⟩ h hr (Kept.refl bc _ w))
  have HF := hide hfar
  clear h hr hfar
  obtain ⟨i0, hi, hz0, hz1, hz2⟩ := info_parts Try.info3
  go_enter Try.func21, Try.ntmps21
  go_wp2
  go_loopw [5, 6] (fun o i wr => ∃ k q : Nat, k ≤ m ∧ i = .int .i64 k ∧ q ≤ p + 3 * k ∧ Hid (MarkSt w wr bc ca cn cc q bs o k)) (fun _ i _ => m - (intOf i).toNat)
  case atStart => exact ⟨0, p, Nat.zero_le _, rfl, by omega, ST⟩
  case round =>
    obtain ⟨k, q, hk, rfl, hq, S0⟩ := hrel
    clear ST
    by_cases hlt : k < m
    · have hi1 : (k : Int) < (m : Int) := by omega
      go_wp2_with fail
      refine (pick_any 3 bc ca cn cc q bs _ S0.out.cur S0.out.bytes (by omega) hn (by omega) (by omega)).mono ?_
      rintro e v1 ⟨r, rfl, hr, hcur, ho⟩
      have S1 := hide (S0.out.only ho hcur hap hbc)
      clear hcur ho S0
      go_wp2_with fail
      refine (one_any 12 bc ca cn cc (q + 1) bs _ S1.out.cur S1.out.bytes (by omega) hn (by omega) (by omega)).mono ?_
      rintro e v2 ⟨b, rfl, hcur, ho⟩
      have S2 := hide (S1.out.only ho hcur hap hbc)
      clear hcur ho S1
      cases b
      · obtain ⟨xs, hown⟩ := S2.out.own
        have hsz := S2.out.kept.size
        have S3 := hide (fun v' W' (h1 : W'.ownsRow w.heap.size 3 1 v' (k + 1) (xs.map (Value.int .i64) ++ [.int .i64 (r : Int)])) (h2 : (v2.alloc (.cells #[.int .i64 (r : Int)] 3)).grownBy W' u5.ownBlock) => (S2.out.alloc (.cells #[.int .i64 (r : Int)] 3) hap).append (hown.alloc _) h1 h2 hbc HF.out)
        have HO := hide (hown.alloc (.cells #[.int .i64 (r : Int)] 3))
        clear hown S2
        go_wp2_with (at_builtin; refine wpList_append_own _ rfl (.tmp 20) (.tmp 22) 30 rfl w.heap.size 3 i0 (.int .i64 0) 1 8 Try.underlying30 hi hz0 hz1 hz2 rfl (by decide) u5 k _ rfl HO.out ⟨v2.heap.size, 0, none⟩ 1 1 [.int .i64 (r : Int)] rfl rfl (cell_one_new _ _ _) (by intro u hu; simp at hu; subst hu; rfl) (by unfold maxLen; omega) (by omega) (by simp; omega) ?_; intro v' W' r1 r2 _; have R := hide (S3.out v' W' r1 r2); clear r1 r2)
        go_roundw
        case rel => exact ⟨k + 1, q + 1 + 1, by omega, by go_num, by omega, R⟩
        case measure => simp [intOf]; omega
      · go_wp2_with fail
        have hB := (Below.refl v2.heap.size v2).alloc (Nat.le_refl _) (.cells (cellsOf [49, 50, 51]) 3)
        have hb2 := S2.out.cur.lt
        have S3 := hide (S2.out.alloc (.cells (cellsOf [49, 50, 51]) 3) hap)
        refine (among_any 3 3 (some ⟨v2.heap.size, 0, none⟩) [49, 50, 51] bc ca cn cc (q + 1 + 1) bs (v2.alloc (.cells (cellsOf [49, 50, 51]) 3)) S3.out.cur S3.out.bytes (by omega) hn (by omega) (by omega) (row_new v2 _ 3 _ rfl rfl) (by intro _ x hx; obtain rfl := Option.some.inj hx; simp; omega)).mono ?_
        rintro e v3 ⟨x, rfl, hx, hcur, ho⟩
        have S4 := hide (S3.out.only ho hcur hap hbc)
        clear hcur ho S3 S2 hB hb2 hx
        obtain ⟨xs, hown⟩ := S4.out.own
        have hsz := S4.out.kept.size
        have S5 := hide (fun v' W' (h1 : W'.ownsRow w.heap.size 3 1 v' (k + 1) (xs.map (Value.int .i64) ++ [.int .i64 x])) (h2 : (v3.alloc (.cells #[.int .i64 x] 3)).grownBy W' u5.ownBlock) => (S4.out.alloc (.cells #[.int .i64 x] 3) hap).append (hown.alloc _) h1 h2 hbc HF.out)
        have HO := hide (hown.alloc (.cells #[.int .i64 x] 3))
        clear hown S4
        go_wp2_with (at_builtin; refine wpList_append_own _ rfl (.tmp 20) (.tmp 22) 30 rfl w.heap.size 3 i0 (.int .i64 0) 1 8 Try.underlying30 hi hz0 hz1 hz2 rfl (by decide) u5 k _ rfl HO.out ⟨v3.heap.size, 0, none⟩ 1 1 [.int .i64 x] rfl rfl (cell_one_new _ _ _) (by intro u hu; simp at hu; subst hu; rfl) (by unfold maxLen; omega) (by omega) (by simp; omega) ?_; intro v' W' r1 r2 _; have R := hide (S5.out v' W' r1 r2); clear r1 r2)
        go_roundw
        case rel => exact ⟨k + 1, q + 1 + 1 + 1, by omega, by go_num, by omega, R⟩
        case measure => simp [intOf]; omega
    · have hk' : k = m := by omega
      subst hk'
      go_wp2_with fail
      refine (one_any 40 bc ca cn cc q bs _ S0.out.cur S0.out.bytes (by omega) hn (by omega) (by omega)).mono ?_
      rintro e v2 ⟨b, rfl, hcur, ho⟩
      have S2 := hide (S0.out.only ho hcur hap hbc)
      clear hcur ho S0
      cases b
      · go_wp2
        go_ret
        exact S2.out.doneW (by omega) (by omega) hbc
      · obtain ⟨xs, hown⟩ := S2.out.own
        have hsz := S2.out.kept.size
        have S3 := hide (fun v' W' (h1 : W'.ownsRow w.heap.size 3 1 v' (k + 1) (xs.map (Value.int .i64) ++ [.int .i64 0])) (h2 : (v2.alloc (.cells #[.int .i64 0] 3)).grownBy W' u5.ownBlock) => (S2.out.alloc (.cells #[.int .i64 0] 3) hap).append (hown.alloc _) h1 h2 hbc HF.out)
        have HO := hide (hown.alloc (.cells #[.int .i64 0] 3))
        clear hown S2
        go_wp2_with (at_builtin; refine wpList_append_own _ rfl (.tmp 26) (.tmp 27) 30 rfl w.heap.size 3 i0 (.int .i64 0) 1 8 Try.underlying30 hi hz0 hz1 hz2 rfl (by decide) u5 k _ rfl HO.out ⟨v2.heap.size, 0, none⟩ 1 1 [.int .i64 0] rfl rfl (cell_one_new _ _ _) (by intro u hu; simp at hu; subst hu; rfl) (by unfold maxLen; omega) (by omega) (by simp; omega) ?_; intro v' W' r1 r2 _; have R := hide (S3.out v' W' r1 r2); clear r1 r2)
        go_ret
        exact R.out.doneW (by omega) (by omega) hbc

theorem mark_draw (m : Nat) (bc : Nat) (ca : Option Addr) (cn cc p : Nat) (bs : List Int) (w : World) (h : Cur w bc ca cn cc p) (hr : RowB w ca cn bs) (hap : Apart ca cn bc) (hfar : 0 < cn → ∀ y, ca = some y → y.block < w.heap.size) (hp : p ≤ 900000) (hn : cn ≤ 1048576) (hm : m ≤ 17) :
    Calls Try.prog 21 #[.pointer (some ⟨bc, 0, none⟩), .int .i64 (m : Int)] w fun e w' => MarkEnd bc ca cn cc p bs w e w' := by
  have hbc := h.lt
  refine (mark_drawW m bc ca cn cc p bs w h hr hap hfar hp hn hm).mono ?_
  rintro e w' ⟨a, n, c, xs, p', h1, h2, h3, h4, h5, h6⟩
  exact ⟨a, n, c, xs, p', h1, h2, h3, h4, fun h0 x hx => by have := h5 h0 x hx; omega, h6⟩

/-- How a function ends that draws a number of places and a list. -/
def DrawEnd1 (w : World) (e : Ending) (w' : World) : Prop :=
  ∃ (p : Int) (a : Option Addr) (n c : Nat) (xs : List Int), e = .returned (.tuple #[.int .i64 p, .slice a n c]) ∧ n ≤ 18 ∧ Row w' a n xs ∧ Below w.heap.size w w'

/-- .. and two lists. -/
def DrawEnd2 (w : World) (e : Ending) (w' : World) : Prop :=
  ∃ (p : Int) (a : Option Addr) (n c : Nat) (xs : List Int) (b : Option Addr) (m d : Nat) (ys : List Int), e = .returned (.tuple #[.int .i64 p, .slice a n c, .slice b m d]) ∧ n ≤ 18 ∧ m ≤ 18 ∧ Row w' a n xs ∧ Row w' b m ys ∧ Below w.heap.size w w'

theorem RowB.below {w w' : World} {a : Option Addr} {n : Nat} {xs : List Int} (h : RowB w a n xs) (hb : Below w.heap.size w w') : RowB w' a n xs := by
  refine ⟨h.1, h.2.1, ?_⟩
  rcases h.2.2 with h0 | ⟨b, off, e, hl, hc⟩
  · exact .inl h0
  · exact .inr ⟨b, off, e, Nat.lt_of_lt_of_le hl hb.size, fun i hi => (hb.cell (p := ⟨b, off + i, none⟩) hl).trans (hc i hi)⟩

theorem RowB.far {w : World} {ca : Option Addr} {cn : Nat} {bs : List Int} (h : RowB w ca cn bs) (h0 : 0 < cn) (y : Addr) (hy : ca = some y) : y.block < w.heap.size := by
  rcases h.2.2 with h1 | ⟨b, off, e, hl, _⟩
  · omega
  · rw [e] at hy; obtain rfl := Option.some.inj hy; exact hl



set_option maxHeartbeats 400000 in
theorem draw2_any (ca : Option Addr) (cn cc : Nat) (bs : List Int) (w : World) (hr : RowB w ca cn bs) (hn : cn ≤ 1048576) :
    Calls Try.prog 34 #[.slice ca cn cc] w fun e w' => DrawEnd2 w e w' := by
  have HB := hide ((Below.refl w.heap.size w).alloc (Nat.le_refl _) (.cells #[.slice ca cn cc, .int .i64 0, .int .u64 0] 43))
  have HR := hide (hr.below HB.out)
  have hap : Hid (Apart ca cn w.heap.size) := fun h0 y hy => by have := hr.far h0 y hy; omega
  have HC : Hid (Cur (w.alloc (.cells #[.slice ca cn cc, .int .i64 0, .int .u64 0] 43)) w.heap.size ca cn cc 0) := ⟨0, heap_alloc_new _ _⟩
  clear hr
  go_enter Try.func34, Try.ntmps34
  go_wp2_with fail
  refine (places_draw w.heap.size ca cn cc 0 bs _ HC.out HR.out hap.out (by omega) hn).mono ?_
  rintro e v1 ⟨x, rfl, hx, hcur, hk⟩
  obtain ⟨m, rfl⟩ : ∃ m : Nat, x = (m : Int) := ⟨x.toNat, by omega⟩
  have HR1 := hide (HR.out.kept hk hap.out)
  have HK1 := hide ((Kept.of_below (bc := w.heap.size) HB.out).trans (hk.mono (by simp)))
  have HC1 := hide hcur
  clear HC HR hk hcur HB
  go_wp2_with fail
  refine (mark_draw m w.heap.size ca cn cc (0 + 1) bs _ HC1.out HR1.out hap.out (HR1.out.far) (by omega) hn (by omega)).mono ?_
  rintro e v2 ⟨a, n, c, xs, p', rfl, hn18, hp', hrow, hapa, hcur, hrb, hk⟩
  have HK2 := hide (HK1.out.trans (hk.mono HK1.out.size))
  have HROW := hide hrow
  have HAPA := hide hapa
  have HC2 := hide hcur
  have HR2 := hide hrb
  clear hrow hapa hcur hrb hk HK1 HC1 HR1
  go_wp2_with fail
  refine (mark_draw m w.heap.size ca cn cc p' bs _ HC2.out HR2.out hap.out (HR2.out.far) (by omega) hn (by omega)).mono ?_
  rintro e v3 ⟨b, n2, c2, ys, p2, rfl, hm18, hp2, hrow, hapb, hcur, hrb, hk⟩
  have HE := hide (⟨(m : Int), a, n, c, xs, b, n2, c2, ys, rfl, hn18, hm18, HROW.out.kept hk HAPA.out, hrow, (HK2.out.trans (hk.mono HK2.out.size)).below (Nat.le_refl _)⟩ : DrawEnd2 w _ v3)
  clear hrow hapb hcur hrb hk HK2 HC2 HR2 hap HROW HAPA
  go_wp2
  go_ret3
  exact HE.out
end Go.Proofs.Yteanbjhlfplojaa
