/- Contracts that the proof stands on, one behind the other. -/
import Derived.Test.YtajcmamapmeglaaP22
/- l1Put and someOf: what they tell owns its memory. -/
namespace Go.Proofs.Ytajcmamapmeglaa
open Go.RowKit
set_option maxRecDepth 10000

/-- How l1Put ends, the list its own. -/
def PutO (n B : Nat) (w : World) (e : Ending) (w' : World) : Prop :=
  ∃ (u : Value) (m : Nat) (ys : List Int), e = .returned u ∧ 1 ≤ m ∧ m ≤ n + 1 ∧ w'.ownsRow B 3 1 u m (ys.map (Value.int .i64)) ∧ Below w.heap.size w w'

theorem PutSt.doneO {w v : World} {u : Value} {m n B : Nat} {ys : List Int} (h : PutSt w v u m ys) (hB : B ≤ w.heap.size) (hm1 : 1 ≤ m) (hmn : m ≤ n + 1) : PutO n B w (.returned u) v := ⟨u, m, ys, rfl, hm1, hmn, own_baseK h.own hB, h.bel⟩

set_option maxHeartbeats 1000000 in
theorem put_nilO (x : Int) (B : Nat) (w : World) (hB : B ≤ w.heap.size) :
    Calls Try.prog 144 #[.slice none 0 0, .int .i64 x] w fun e w' => PutO 0 B w e w' := by
  obtain ⟨i0, hi, hz0, hz1, hz2⟩ := info_split Try.info3
  have P0 := hide (PutSt.first w)
  go_enter Try.func144, Try.ntmps144
  go_wp2_with fail
  go_loop [5] (fun i => i = .int .i64 0) (fun _ => 0)
  case atStart => rfl
  case round =>
    obtain rfl := hrel
    go_wp2_with (at_builtin; first
      | (refine wpList_append_any _ rfl (.tmp 34) (.tmp 37) 27 rfl w.heap.size 3 i0 (.int .i64 0) 1 8 Try.underlying27 hi hz0 hz1 hz2 rfl (by decide) (.slice (some ⟨w.heap.size, 0, none⟩) 0 0) 0 [] rfl P0.out.own none 0 0 [] rfl rfl (fun _ => ⟨rfl, rfl⟩) (fun ad h => by cases h) (by simp) (by unfold maxLen; omega) (by omega) (by simp) ?_; intro u1 W1 r1 r2; have P1 := hide ((P0.out.step (q := 0) (zs := []) r1 r2).alloc (.cells #[.int .i64 x] 3)); clear r1 r2)
      | (refine wpList_append_own _ rfl (.tmp 39) (.tmp 41) 27 rfl w.heap.size 3 i0 (.int .i64 0) 1 8 Try.underlying27 hi hz0 hz1 hz2 rfl (by decide) u1 _ _ rfl P1.out.own ⟨W1.heap.size, 0, none⟩ 1 1 [.int .i64 x] rfl rfl (cell_one_new _ _ _) (by simp [Value.oneCell']) (by unfold maxLen; omega) (by omega) (Nat.le_trans P1.out.bel.size (Nat.le_refl _)) ?_; intro u2 W2 r1 r2 _; have P2 := hide (P1.out.step (q := 1) (zs := [x]) r1 r2); clear r1 r2)
      | (refine wpList_append_any _ rfl (.tmp 43) (.tmp 46) 27 rfl w.heap.size 3 i0 (.int .i64 0) 1 8 Try.underlying27 hi hz0 hz1 hz2 rfl (by decide) u2 _ _ rfl P2.out.own none 0 0 [] rfl rfl (fun _ => ⟨rfl, rfl⟩) (fun ad h => by cases h) (by simp) (by unfold maxLen; omega) (by omega) P2.out.bel.size ?_; intro u3 W3 r1 r2; have P3 := hide (P2.out.step (q := 0) (zs := []) r1 r2); clear r1 r2))
    go_ret
    exact P3.out.doneO hB (by omega) (by omega)

set_option maxHeartbeats 2000000 in
theorem put_someO (b n c : Nat) (xs : List Int) (x : Int) (B : Nat) (w : World) (hB : B ≤ w.heap.size) (hown : w.ownsRow B 3 1 (.slice (some ⟨b, 0, none⟩) n c) n (xs.map (Value.int .i64))) (h : Row w (some ⟨b, 0, none⟩) n xs) (hn : n ≤ 1000) (hn1 : 1 ≤ n) (hc : n ≤ c) (hc2 : c ≤ maxLen) :
    Calls Try.prog 144 #[.slice (some ⟨b, 0, none⟩) n c, .int .i64 x] w fun e w' => PutO n B w e w' := by
  have HR := hide h
  have HOW := hide hown
  have hlen := hide h.1
  unfold maxLen at hc2
  clear h hown
  obtain ⟨i0, hi, hz0, hz1, hz2⟩ := info_split Try.info3
  have P0 := hide (PutSt.first w)
  go_enter Try.func144, Try.ntmps144
  go_wp2_with fail
  go_loop [5] (fun i => ∃ k : Nat, k ≤ n ∧ i = .int .i64 k) (fun i => n - (intOf i).toNat)
  case atStart => exact ⟨0, Nat.zero_le _, rfl⟩
  case round =>
    obtain ⟨k, hk, rfl⟩ := hrel
    have HC1 := hide (fun W (hb : Below w.heap.size w W) => cells_upto (HR.out.below hb) hk _ rfl)
    by_cases hlt : k < n
    · obtain ⟨b1, o1, y, he, hl1, hc1, H1⟩ := HR.out.at hlt
      obtain ⟨rfl, rfl⟩ : b1 = b ∧ o1 = 0 := by simpa [eq_comm] using he
      rw [Nat.zero_add] at hc1
      have hki : (k : Int) < (n : Int) := by omega
      have hkn : k < n := hlt
      have hkc : ¬ c = k := by omega
      have HC2 := hide (fun W (hb : Below w.heap.size w W) => cells_behind (HR.out.below hb) hlt b1 0 rfl)
      rw [Nat.zero_add] at HC2
      clear he hlt
      by_cases hy : y < x
      · go_wp2_with fail
        go_round
        case rel => exact ⟨k + 1, by omega, by go_num⟩
        case measure => simp [intOf]; omega
      · by_cases hy2 : y = x
        · go_wp2_with fail
          go_ret
          exact ⟨_, n, xs, rfl, hn1, by omega, HOW.out, Below.refl _ _⟩
        · go_wp2_with (at_builtin; first
            | (refine wpList_append_any _ rfl (.tmp 34) (.tmp 37) 27 rfl w.heap.size 3 i0 (.int .i64 0) 1 8 Try.underlying27 hi hz0 hz1 hz2 rfl (by decide) (.slice (some ⟨w.heap.size, 0, none⟩) 0 0) 0 [] rfl P0.out.own (some ⟨b1, 0, none⟩) k c ((xs.take k).map (Value.int .i64)) rfl (by have := hlen.out; simp; omega) (fun h => by cases h) (fun ad h => by cases h; exact HC1.out _ P0.out.bel) (ints_oneCell _ _) (by unfold maxLen; omega) (by omega) (by simp) ?_; intro u1 W1 r1 r2; have P1 := hide ((P0.out.step (q := k) (zs := xs.take k) r1 r2).alloc (.cells #[.int .i64 x] 3)); clear r1 r2)
            | (refine wpList_append_own _ rfl (.tmp 39) (.tmp 41) 27 rfl w.heap.size 3 i0 (.int .i64 0) 1 8 Try.underlying27 hi hz0 hz1 hz2 rfl (by decide) u1 _ _ rfl P1.out.own ⟨W1.heap.size, 0, none⟩ 1 1 [.int .i64 x] rfl rfl (cell_one_new _ _ _) (by simp [Value.oneCell']) (by unfold maxLen; omega) (by omega) P1.out.bel.size ?_; intro u2 W2 r1 r2 _; have P2 := hide (P1.out.step (q := 1) (zs := [x]) r1 r2); clear r1 r2)
            | (refine wpList_append_own _ rfl (.tmp 43) (.tmp 46) 27 rfl w.heap.size 3 i0 (.int .i64 0) 1 8 Try.underlying27 hi hz0 hz1 hz2 rfl (by decide) u2 _ _ rfl P2.out.own ⟨b1, k, none⟩ (n - k) (c - k) ((xs.drop k).map (Value.int .i64)) rfl (by have := hlen.out; simp; omega) (HC2.out _ P2.out.bel) (ints_oneCell _ _) (by unfold maxLen; omega) (by omega) P2.out.bel.size ?_; intro u3 W3 r1 r2 _; have P3 := hide (P2.out.step (q := n - k) (zs := xs.drop k) r1 r2); clear r1 r2))
          go_ret
          exact P3.out.doneO hB (by omega) (by omega)
    · have hk' : k = n := by omega
      have hki : ¬ (k : Int) < (n : Int) := by omega
      subst hk'
      go_wp2_with (at_builtin; first
        | (refine wpList_append_any _ rfl (.tmp 34) (.tmp 37) 27 rfl w.heap.size 3 i0 (.int .i64 0) 1 8 Try.underlying27 hi hz0 hz1 hz2 rfl (by decide) (.slice (some ⟨w.heap.size, 0, none⟩) 0 0) 0 [] rfl P0.out.own (some ⟨b, 0, none⟩) k c ((xs.take k).map (Value.int .i64)) rfl (by have := hlen.out; simp; omega) (fun h => by cases h) (fun ad h => by cases h; exact HC1.out _ P0.out.bel) (ints_oneCell _ _) (by unfold maxLen; omega) (by omega) (by simp) ?_; intro u1 W1 r1 r2; have P1 := hide ((P0.out.step (q := k) (zs := xs.take k) r1 r2).alloc (.cells #[.int .i64 x] 3)); clear r1 r2)
        | (refine wpList_append_own _ rfl (.tmp 39) (.tmp 41) 27 rfl w.heap.size 3 i0 (.int .i64 0) 1 8 Try.underlying27 hi hz0 hz1 hz2 rfl (by decide) u1 _ _ rfl P1.out.own ⟨W1.heap.size, 0, none⟩ 1 1 [.int .i64 x] rfl rfl (cell_one_new _ _ _) (by simp [Value.oneCell']) (by unfold maxLen; omega) (by omega) P1.out.bel.size ?_; intro u2 W2 r1 r2 _; have P2 := hide (P1.out.step (q := 1) (zs := [x]) r1 r2); clear r1 r2)
        | (refine wpList_append_any _ rfl (.tmp 43) (.tmp 46) 27 rfl w.heap.size 3 i0 (.int .i64 0) 1 8 Try.underlying27 hi hz0 hz1 hz2 rfl (by decide) u2 _ _ rfl P2.out.own _ _ _ [] rfl (by simp) (by intro h; first | cases h | (split at h <;> cases h)) (by intro ad _ j u hu; simp at hu) (by simp) (by unfold maxLen; omega) (by omega) P2.out.bel.size ?_; intro u3 W3 r1 r2; have P3 := hide (P2.out.step (zs := []) r1 r2); clear r1 r2))
      all_goals go_ret
      all_goals exact P3.out.doneO hB (by omega) (by omega)

/-- What is there while someOf draws. -/
structure SomeStO (w v : World) (bc : Nat) (ca : Option Addr) (cn cc p : Nat) (bs : List Int) (u : Value) (m : Nat) : Prop where
  new : ∃ (n : Nat) (xs : List Int), n ≤ m ∧ (n = 0 → u = .slice none 0 0) ∧ v.ownsRow w.heap.size 3 1 u n (xs.map (Value.int .i64))
  cur : Cur v bc ca cn cc p
  bytes : RowB v ca cn bs
  kept : Kept bc w.heap.size w v

/-- How someOf ends, the list its own. -/
def SomeEndO (hi bc : Nat) (ca : Option Addr) (cn cc p : Nat) (bs : List Int) (w : World) (e : Ending) (w' : World) : Prop :=
  ∃ (u : Value) (n : Nat) (xs : List Int) (p' : Nat), e = .returned u ∧ n ≤ hi ∧ w'.ownsRow w.heap.size 3 1 u n (xs.map (Value.int .i64)) ∧ p' ≤ p + 1 + hi ∧ Cur w' bc ca cn cc p' ∧ RowB w' ca cn bs ∧ Kept bc w.heap.size w w'

theorem own_keptO {B bc : Nat} {v v' : World} {u : Value} {n : Nat} {l : List Value} (h : v.ownsRow B 3 1 u n l) (hk : Kept bc v.heap.size v v') (hb : bc < B) : v'.ownsRow B 3 1 u n l := by
  refine ⟨h.1, ?_⟩
  rcases h.2 with h0 | ⟨g, cap, cur, e, h1, h2, h3⟩
  · exact .inl h0
  · exact .inr ⟨g, cap, cur, e, h1, (hk.block g (Array.getElem?_eq_some_iff.mp h2).1 (by omega)).trans h2, h3⟩

theorem SomeStO.only {w v v' : World} {bc : Nat} {ca : Option Addr} {cn cc p p' : Nat} {bs : List Int} {u : Value} {m : Nat} (h : SomeStO w v bc ca cn cc p bs u m) (ho : OnlyC bc v v') (hc : Cur v' bc ca cn cc p') (hap : Apart ca cn bc) (hb : bc < w.heap.size) : SomeStO w v' bc ca cn cc p' bs u m := by
  obtain ⟨n, xs, hn, hnz, hl⟩ := h.new
  exact ⟨⟨n, xs, hn, hnz, own_keptO hl (Kept.of_only (B := v.heap.size) ho) hb⟩, hc, h.bytes.keep ho hap, h.kept.trans (Kept.of_only ho)⟩

theorem SomeStO.put {w v : World} {bc : Nat} {ca : Option Addr} {cn cc p : Nat} {bs : List Int} {u : Value} {m : Nat} (h : SomeStO w v bc ca cn cc p bs u m) (hm : m ≤ 100) (x : Int) (hap : Apart ca cn bc) :
    Calls Try.prog 144 #[u, .int .i64 x] v fun e v' => ∃ u', e = .returned u' ∧ SomeStO w v' bc ca cn cc p bs u' (m + 1) := by
  have hcl := h.cur.lt
  have fin : ∀ {n : Nat} {e : Ending} {v' : World}, n ≤ m → PutO n w.heap.size v e v' → ∃ u', e = .returned u' ∧ SomeStO w v' bc ca cn cc p bs u' (m + 1) := by
    rintro n e v' hn ⟨u', m', ys, rfl, h0, h1, h2, h7⟩
    exact ⟨_, rfl, ⟨m', ys, by omega, fun e => by omega, h2⟩, h.cur.below h7 hcl, h.bytes.kept (Kept.of_below h7) hap, h.kept.trans ((Kept.of_below h7).mono h.kept.size)⟩
  obtain ⟨n, xs, hn, hnz, hl⟩ := h.new
  rcases hl.2 with ⟨rfl, rfl⟩ | ⟨g, cap, cur, rfl, hb, hh, hnc, hcm, hsz, ht⟩
  · exact (put_nilO x _ v h.kept.size).mono fun e v' he => fin (Nat.zero_le _) he
  · by_cases hn0 : n = 0
    · have := hnz hn0; simp at this
    · obtain ⟨a', c', e, hr⟩ := ownsRow_row2 hl
      obtain ⟨rfl, rfl⟩ : a' = some ⟨g, 0, none⟩ ∧ c' = cap := by simpa [eq_comm] using e
      exact (put_someO g n _ xs x _ v h.kept.size hl hr (by omega) (by omega) hnc hcm).mono fun e v' he => fin hn he

theorem SomeStO.doneO {w v : World} {bc : Nat} {ca : Option Addr} {cn cc p q hi : Nat} {bs : List Int} {u : Value} {m : Nat} (h : SomeStO w v bc ca cn cc q bs u m) (hm : m ≤ hi) (hq : q ≤ p + 1 + hi) : SomeEndO hi bc ca cn cc p bs w (.returned u) v := by
  obtain ⟨n, xs, hn, _, hl⟩ := h.new
  exact ⟨u, n, xs, q, rfl, by omega, hl, hq, h.cur, h.bytes, h.kept⟩

set_option maxHeartbeats 1000000 in
theorem some_drawO (pl lo hi : Nat) (bc : Nat) (ca : Option Addr) (cn cc p : Nat) (bs : List Int) (w : World) (h : Cur w bc ca cn cc p) (hr : RowB w ca cn bs) (hap : Apart ca cn bc) (hp : p ≤ 900000) (hn : cn ≤ 1048576) (hpl : 1 ≤ pl) (hpl2 : pl ≤ 200) (hlo : lo ≤ hi) (hhi : hi ≤ 50) :
    Calls Try.prog 110 #[.pointer (some ⟨bc, 0, none⟩), .int .i64 (pl : Int), .int .i64 (lo : Int), .int .i64 (hi : Int)] w fun e w' => SomeEndO hi bc ca cn cc p bs w e w' := by
  have hbc := h.lt
  have ST := hide (SomeStO.mk (w := w) (u := .slice none 0 0) (m := 0) ⟨0, [], Nat.le_refl _, fun _ => rfl, World.ownsRow_nil _ _ _ _⟩ h hr (Kept.refl bc _ w))
  have HP := hide (pickS_any (hi + 1 - lo) bc ca cn cc p bs w h hr (by omega) hn (by omega) (by omega))
  rw [show ((hi + 1 - lo : Nat) : Int) = (hi : Int) - (lo : Int) + 1 by omega] at HP
  clear h hr
  go_enter Try.func110, Try.ntmps110
  go_wp2_with fail
  refine HP.out.mono ?_
  rintro e v1 ⟨r, p1, rfl, hr, hp1, hcur, ho⟩
  have S1 := hide (ST.out.only ho hcur hap hbc)
  clear hcur ho ST HP
  go_wp2_with fail
  go_loopw [9, 10] (fun u i wr => ∃ k q m : Nat, i = .int .i64 k ∧ k + m ≤ hi ∧ q + k ≤ p + 1 + hi ∧ Hid (SomeStO w wr bc ca cn cc q bs u m)) (fun _ i _ => (intOf i).toNat)
  case atStart => exact ⟨lo + r, p1, 0, by go_num, by omega, by omega, S1⟩
  case round =>
    obtain ⟨k, q, m, rfl, hkm, hq, S0⟩ := hrel
    clear S1
    by_cases hlt : 0 < k
    · have hi1 : (0 : Int) < (k : Int) := by omega
      go_wp2_with fail
      refine (pickS_any pl bc ca cn cc q bs _ S0.out.cur S0.out.bytes (by omega) hn hpl hpl2).mono ?_
      rintro e v2 ⟨x, q2, rfl, hx, hq2, hcur, ho⟩
      have S2 := hide (S0.out.only ho hcur hap hbc)
      clear hcur ho S0
      go_wp2_with fail
      refine (S2.out.put (by omega) _ hap).mono ?_
      rintro e v3 ⟨u', rfl, S3'⟩
      have S3 := hide S3'
      clear S3' S2
      go_wp2_with fail
      go_roundw
      case rel => exact ⟨k - 1, q2, m + 1, by go_num, by omega, by omega, S3⟩
      case measure => simp [intOf]; omega
    · have hk0 : k = 0 := by omega
      subst hk0
      go_wp2_with fail
      go_ret
      exact S0.out.doneO (by omega) (by omega)


end Go.Proofs.Ytajcmamapmeglaa


/- The cursor's placeSet. -/
namespace Go.Proofs.Ytajcmamapmeglaa
open Go.RowKit
set_option maxRecDepth 10000

/-- How placeSet ends. -/
def PsDr (bc : Nat) (ca : Option Addr) (cn cc p : Nat) (bs : List Int) (w : World) (e : Ending) (w' : World) : Prop :=
  ∃ a n c xs p', e = .returned (.slice a n c) ∧ n ≤ 16 ∧ p' ≤ p + 20 ∧ Row w' a n xs ∧ (0 < n → ∀ x, a = some x → w.heap.size ≤ x.block) ∧ Cur w' bc ca cn cc p' ∧ RowB w' ca cn bs ∧ Kept bc w.heap.size w w'

theorem Row.keptLoc {B bc : Nat} {v v' : World} {a : Option Addr} {n : Nat} {xs : List Int} (h : Row v a n xs) (hl : 0 < n → ∀ x, a = some x → B ≤ x.block) (hk : Kept bc v.heap.size v v') (hb : bc < B) : Row v' a n xs := by
  refine ⟨h.1, ?_⟩
  rcases h.2 with h0 | ⟨b, off, e, hlt, hc⟩
  · exact .inl h0
  · by_cases h0 : 0 < n
    · have := hl h0 _ e
      exact .inr ⟨b, off, e, Nat.lt_of_lt_of_le hlt hk.size, fun i hi => (World.cell?_of_block (a := ⟨b, off + i, none⟩) (hk.block b hlt (by simp at this; omega))).trans (hc i hi)⟩
    · exact .inl (by omega)

/-- What is there while placeSet draws: the net in its box, the list, the cursor. -/
structure PsSt (w v : World) (bc : Nat) (ca : Option Addr) (cn cc p : Nat) (bs : List Int) (V : Nat) (pl : Int) (ua : Option Addr) (k uc : Nat) (L : List (List Int)) (u : Value) (n : Nat) (xs : List Int) : Prop where
  box : v.heap[V]? = some (.cells #[.int .i64 pl, .slice ua k uc] 26 (0, 0))
  net : Lists v ua (3 * k) L
  own : v.ownsRow w.heap.size 3 1 u n (xs.map (Value.int .i64))
  cur : Cur v bc ca cn cc p
  byt : RowB v ca cn bs
  kept : Kept bc w.heap.size w v

theorem PsSt.go {w v v' : World} {bc : Nat} {ca : Option Addr} {cn cc p q : Nat} {bs : List Int} {V : Nat} {pl : Int} {ua : Option Addr} {k uc : Nat} {L : List (List Int)} {u : Value} {n : Nat} {xs : List Int} (h : PsSt w v bc ca cn cc p bs V pl ua k uc L u n xs)
    (hst : ∀ W, Kept bc w.heap.size w W → Lists W ua (3 * k) L) (hk : Kept bc v.heap.size v v') (hc : Cur v' bc ca cn cc q) (hV : V ≠ bc) (hap : Apart ca cn bc) (hb : bc < w.heap.size) : PsSt w v' bc ca cn cc q bs V pl ua k uc L u n xs :=
  have h2 := h.kept.trans (hk.mono h.kept.size)
  ⟨(hk.block V (row_lt h.box) hV).trans h.box, hst _ h2, own_keptO h.own hk hb, hc, h.byt.kept hk hap, h2⟩

theorem PsSt.done {w v : World} {bc : Nat} {ca : Option Addr} {cn cc p p' : Nat} {bs : List Int} {V : Nat} {pl : Int} {ua : Option Addr} {k uc : Nat} {L : List (List Int)} {u : Value} {n : Nat} {xs : List Int} (h : PsSt w v bc ca cn cc p' bs V pl ua k uc L u n xs) (hn : n ≤ 16) (hp : p' ≤ p + 20) : PsDr bc ca cn cc p bs w (.returned u) v := by
  have hlt := h.own.lt
  obtain ⟨a, c, rfl, hr⟩ := ownsRow_row2 h.own
  exact ⟨a, n, c, xs, p', rfl, hn, hp, hr, fun _ x hx => by subst hx; exact (hlt x.block rfl).1, h.cur, h.byt, h.kept⟩

theorem PsSt.doneA {w v W : World} {bc : Nat} {ca : Option Addr} {cn cc p p' : Nat} {bs : List Int} {V : Nat} {pl : Int} {ua : Option Addr} {k uc : Nat} {L : List (List Int)} {u u' : Value} {n : Nat} {xs : List Int} (h : PsSt w v bc ca cn cc p' bs V pl ua k uc L u n xs) (hn : n ≤ 15) (hp : p' ≤ p + 20) (hb : bc < w.heap.size) (hfar : 0 < cn → ∀ y, ca = some y → y.block < w.heap.size)
    (r1 : W.ownsRow w.heap.size 3 1 u' (n + 1) (xs.map (Value.int .i64) ++ [.int .i64 pl])) (r2 : v.grownBy W u.ownBlock) : PsDr bc ca cn cc p bs w (.returned u') W := by
  have hlt0 := h.own.lt
  have r1' : W.ownsRow w.heap.size 3 1 u' (n + 1) ((xs ++ [pl]).map (Value.int .i64)) := by rw [List.map_append]; exact r1
  have hlt := r1'.lt
  obtain ⟨a, c, rfl, hr⟩ := ownsRow_row2 r1'
  have hbl : Below w.heap.size v W := (Below.refl _ v).grown r2 h.kept.size fun q hq => (hlt0 q hq).1
  have hkp : Kept bc w.heap.size w W := h.kept.trans (Kept.of_below hbl)
  refine ⟨a, n + 1, c, xs ++ [pl], p', rfl, by omega, hp, hr, fun _ x hx => by subst hx; exact (hlt x.block rfl).1, h.cur.below hbl hb, ?_, hkp⟩
  refine ⟨h.byt.1, h.byt.2.1, ?_⟩
  rcases h.byt.2.2 with h0 | ⟨b, off, e, hl, hcc⟩
  · exact .inl h0
  · by_cases h0 : cn = 0
    · exact .inl h0
    · exact .inr ⟨b, off, e, Nat.lt_of_lt_of_le hl hbl.size, fun i hi => (World.cell?_of_block (a := ⟨b, off + i, none⟩) (hbl.block b (hfar (by omega) _ e))).trans (hcc i hi)⟩

set_option maxHeartbeats 4000000 in
theorem placeSet_draw (pl : Int) (ua : Option Addr) (k uc : Nat) (L : List (List Int)) (bc : Nat) (ca : Option Addr) (cn cc p : Nat) (bs : List Int) (w : World) (h : Cur w bc ca cn cc p) (hr : RowB w ca cn bs) (hap : Apart ca cn bc) (hp : p ≤ 500000) (hn : cn ≤ 1048576) (hpl : 0 ≤ pl ∧ pl ≤ 60) (hs : sizeN k L ≤ 1048576)
    (hst : ∀ W, Kept bc w.heap.size w W → Lists W ua (3 * k) L) :
    Calls Try.prog 86 #[.pointer (some ⟨bc, 0, none⟩), .agg #[.int .i64 pl, .slice ua k uc]] w fun e w' => PsDr bc ca cn cc p bs w e w' := by
  have hbc := h.lt
  have hA := below_al w (.cells #[.int .i64 pl, .slice ua k uc] 26)
  have HC := hide (h.below hA hbc)
  have HR := hide (hr.kept (Kept.of_below hA) hap)
  have HK := hide (Kept.of_below (bc := bc) hA)
  have HBX := hide (heap_alloc_new w (.cells #[.int .i64 pl, .slice ua k uc] 26))
  have HST := hide hst
  have HAP := hide hap
  have HFAR : Hid (0 < cn → ∀ y, ca = some y → y.block < w.heap.size) := hr.far
  obtain ⟨hv0, hv1⟩ := cells2 HBX.out
  have hvl := row_lt HBX.out
  have hVb : w.heap.size ≠ bc := by omega
  clear h hr hA hap hst
  go_enter Try.func86, Try.ntmps86
  go_wp2_with fail
  refine (most_any 1 pl _).mono ?_
  rintro e w1 ⟨rfl, rfl⟩
  have hmo : 1 ≤ mostI 1 pl ∧ mostI 1 pl ≤ 60 := by unfold mostI; split <;> omega
  obtain ⟨mo, hmoe⟩ : ∃ mo : Nat, mostI 1 pl = (mo : Int) := ⟨(mostI 1 pl).toNat, by omega⟩
  rw [hmoe] at hmo ⊢
  clear hv0 hv1 hvl
  go_wp2_with fail
  refine (some_drawO mo 0 4 bc ca cn cc p bs _ HC.out HR.out HAP.out (by omega) hn (by omega) (by omega) (by omega) (by omega)).mono ?_
  rintro e v2 ⟨u, n, xs, p2, rfl, hn4, hown, hp2, hcur, hby, hkp⟩
  have hk2 := HK.out.trans (hkp.mono HK.out.size)
  have S2 : Hid (PsSt w v2 bc ca cn cc p2 bs w.heap.size pl ua k uc L u n xs) :=
    ⟨(hkp.block _ (row_lt HBX.out) hVb).trans HBX.out, HST.out _ hk2, own_baseK hown HK.out.size, hcur, hby, hk2⟩
  clear hown hcur hby hkp hk2 HC HR HK HBX hmoe hmo
  go_wp2_with fail
  refine (one_any 3 bc ca cn cc p2 bs _ S2.out.cur S2.out.byt (by omega) hn (by omega) (by omega)).mono ?_
  rintro e v3 ⟨b3, rfl, hcur, ho⟩
  have S3 := hide (S2.out.go HST.out (Kept.of_only ho) hcur hVb HAP.out hbc)
  clear hcur ho S2
  have hp3 : p2 + 1 ≤ p + 6 := by omega
  generalize p2 + 1 = p3 at *
  cases b3
  case' false => go_upto_region 6 with fail
  case' true =>
    obtain ⟨hv0, hv1⟩ := cells2 S3.out.box
    have hvl := row_lt S3.out.box
    obtain ⟨a, c, rfl, hrow⟩ := ownsRow_row2 S3.out.own
    go_wp2_with fail
    refine (bigSiphonS_any pl ua a k uc n c L xs _ S3.out.net hrow hs (by omega)).mono ?_
    rintro e v4 ⟨a4, m4, c4, zs, rfl, hr4, hl4, hz4, hb⟩
    have S4 := hide (S3.out.go HST.out (Kept.of_below hb) (S3.out.cur.below hb S3.out.cur.lt) hVb HAP.out hbc)
    have hz16 : m4 ≤ 16 := by
      have h1 := hr4.1
      cases hok : ssOk pl k L xs
      · rw [hz4.2 hok] at h1; simp at h1; omega
      · obtain ⟨r, _, _, e⟩ := hz4.1 hok
        have := nums_len r.testBit 16
        rw [e] at h1; omega
    have HE : Hid (PsDr bc ca cn cc p bs w (.returned (.slice a4 m4 c4)) v4) := ⟨a4, m4, c4, zs, p3, rfl, hz16, by omega, hr4, fun h0 x hx => Nat.le_trans S3.out.kept.size (hl4 h0 x hx), S4.out.cur, S4.out.byt, S4.out.kept⟩
    clear hr4 hl4 hz4 hb hrow hv0 hv1 hvl S3
    generalize ssOk pl k L xs = ok at *
    have S3 := S4
    clear S4
    cases ok
    case' true =>
      go_wp2_with fail
      go_ret
      exact HE.out
    case' false =>
      clear HE
      generalize v4 = v3 at *
      go_upto_region 6 with fail
  all_goals
    go_wp2_with fail
    refine (one_any 30 bc ca cn cc p3 bs _ S3.out.cur S3.out.byt (by omega) hn (by omega) (by omega)).mono ?_
    rintro e v5 ⟨b5, rfl, hcur, ho⟩
    have S5 := hide (S3.out.go HST.out (Kept.of_only ho) hcur hVb HAP.out hbc)
    clear hcur ho S3
    cases b5
    · have HE := hide (S5.out.done (p' := p3 + 1) (p := p) (by omega) (by omega))
      clear S5
      go_wp2_with fail
      go_ret
      exact HE.out
    · obtain ⟨hv0, hv1⟩ := cells2 S5.out.box
      have hvl := row_lt S5.out.box
      obtain ⟨i0, hi, hz0, hz1, hz2⟩ := info_split2 Try.info3
      have hA2 := below_al v5 (.cells #[.int .i64 pl] 3)
      have S6 := hide (S5.out.go HST.out (Kept.of_below hA2) (S5.out.cur.below hA2 S5.out.cur.lt) hVb HAP.out hbc)
      have HO6 := hide S6.out.own
      have HCE : Hid (∀ j y, ([.int .i64 pl] : List Value)[j]? = some y → (v5.alloc (.cells #[.int .i64 pl] 3)).cell? ((⟨v5.heap.size, 0, none⟩ : Addr).add j) = some y) := one_cell2 v5 _
      have H1c : Hid (∀ y ∈ ([.int .i64 pl] : List Value), y.oneCell' = true) := fun y hy => by simp at hy; subst hy; rfl
      have HX := hide (show n + 1 ≤ maxLen by unfold maxLen; omega)
      have HY := hide (show (n + 1) * 8 ≤ 140737488355328 by omega)
      have HZ := hide S6.out.kept.size
      clear hA2
      go_wp2_with (refine wpList_append_own _ rfl (.tmp 25) (.tmp 28) 27 rfl w.heap.size 3 i0 (.int .i64 0) 1 8 Try.underlying27 hi hz0 hz1 hz2 rfl (by decide) _ n _ rfl HO6.out ⟨_, 0, none⟩ 1 1 [.int .i64 pl] rfl rfl HCE.out H1c.out HX.out HY.out HZ.out ?_; intro v' W' r1 r2 r3)
      have HE := hide (S6.out.doneA (p' := p3 + 1) (p := p) (pl := pl) (by omega) (by omega) hbc HFAR.out r1 r2)
      clear r1 r2 r3 S5 S6 HO6
      go_wp2_with fail
      go_ret
      exact HE.out
end Go.Proofs.Ytajcmamapmeglaa


/- DrawFire: a net, a list and a number, whatever the bytes; nothing that was there is written. -/
namespace Go.Proofs.Ytajcmamapmeglaa
open Go.RowKit
set_option maxRecDepth 10000

/-- How DrawFire ends. -/
def FireDr (w : World) (e : Ending) (w' : World) : Prop :=
  ∃ (pl : Int) (a : Option Addr) (k c : Nat) (L : List (List Int)) (b : Option Addr) (n d : Nat) (xs : List Int) (t : Int), e = .returned (.tuple #[.agg #[.int .i64 pl, .slice a k c], .slice b n d, .int .i64 t]) ∧ (0 ≤ pl ∧ pl ≤ 17) ∧ (1 ≤ k ∧ k ≤ 5) ∧ Lists w' a (3 * k) L ∧ sizeN k L ≤ 35 ∧ n ≤ 18 ∧ Row w' b n xs ∧ (-1 ≤ t ∧ t ≤ 5) ∧ Below w.heap.size w w'

theorem Row.far {w w' : World} {a : Option Addr} {n : Nat} {xs : List Int} (h : Row w a n xs) (hs : w.heap.size ≤ w'.heap.size) (hk : ∀ x, 0 < n → a = some x → x.block < w.heap.size → w'.heap[x.block]? = w.heap[x.block]?) : Row w' a n xs := by
  refine ⟨h.1, ?_⟩
  rcases h.2 with h0 | ⟨b, off, e, hl, hc⟩
  · exact .inl h0
  · by_cases h0 : n = 0
    · exact .inl h0
    · exact .inr ⟨b, off, e, Nat.lt_of_lt_of_le hl hs, fun i hi => (World.cell?_of_block (a := ⟨b, off + i, none⟩) (hk ⟨b, off, none⟩ (by omega) e hl)).trans (hc i hi)⟩

theorem keepK2 {W W' : World} {bc V : Nat} {x y : Value} (hk : Kept bc W.heap.size W W') (hne : V ≠ bc) (h : W.cell? ⟨V, 0, none⟩ = some x ∧ W.cell? ⟨V, 1, none⟩ = some y) : W'.cell? ⟨V, 0, none⟩ = some x ∧ W'.cell? ⟨V, 1, none⟩ = some y := ⟨keepK hk hne h.1, keepK hk hne h.2⟩
theorem keepO2 {W W' : World} {bc V : Nat} {x y : Value} (hk : OnlyC bc W W') (hne : V ≠ bc) (h : W.cell? ⟨V, 0, none⟩ = some x ∧ W.cell? ⟨V, 1, none⟩ = some y) : W'.cell? ⟨V, 0, none⟩ = some x ∧ W'.cell? ⟨V, 1, none⟩ = some y := keepK2 (Kept.of_only hk) hne h
theorem keepS2 {W : World} {V R : Nat} {x y u v : Value} (hne : V ≠ R) (h : W.cell? ⟨V, 0, none⟩ = some x ∧ W.cell? ⟨V, 1, none⟩ = some y) : ((W.setCell ⟨R, 0, none⟩ u).setCell ⟨R, 1, none⟩ v).cell? ⟨V, 0, none⟩ = some x ∧ ((W.setCell ⟨R, 0, none⟩ u).setCell ⟨R, 1, none⟩ v).cell? ⟨V, 1, none⟩ = some y := by
  have far : ∀ o, ((W.setCell ⟨R, 0, none⟩ u).setCell ⟨R, 1, none⟩ v).cell? ⟨V, o, none⟩ = W.cell? ⟨V, o, none⟩ := fun o => by
    rw [World.cell?_setCell_far _ _ _ _ (fun e => hne e.symm), World.cell?_setCell_far _ _ _ _ (fun e => hne e.symm)]
  exact ⟨(far 0).trans h.1, (far 1).trans h.2⟩

end Go.Proofs.Ytajcmamapmeglaa


/- The nets drawn by walked: DrawStepBack, DrawExplore, DrawIsLive, DrawBoundOf, whatever the bytes; nothing that was there is written. -/
namespace Go.Proofs.Ytajcmamapmeglaa
open Go.RowKit
set_option maxRecDepth 10000

/-- Behind walked, until the draw ends. -/
structure DrSt (w W : World) (B T bc R V : Nat) (ca : Option Addr) (cn cc p : Nat) (bs : List Int) (pl : Int) (ua : Option Addr) (k uc : Nat) (L : List (List Int)) (a : Option Addr) (n : Nat) (xs : List Int) : Prop where
  res : W.heap[R]? = some (.cells #[.int .i64 0, .slice none 0 0] 26 (0, 0))
  box : W.heap[V]? = some (.cells #[.int .i64 pl, .slice ua k uc] 26 (0, 0))
  stab : ∀ W', T ≤ W'.heap.size → (∀ q, B ≤ q → q < T → W'.heap[q]? = W.heap[q]?) → Lists W' ua (3 * k) L ∧ Row W' a n xs
  low : T ≤ W.heap.size
  cur : Cur W bc ca cn cc p
  byt : RowB W ca cn bs
  kept : Below w.heap.size w W

theorem DrSt.go {w W W' : World} {B T bc R V cn cc p p' k uc n : Nat} {ca ua a : Option Addr} {bs xs : List Int} {pl : Int} {L : List (List Int)} (h : DrSt w W B T bc R V ca cn cc p bs pl ua k uc L a n xs) (hk : Kept bc W.heap.size W W') (hc : Cur W' bc ca cn cc p') (hb : bc < B) (hR : R ≠ bc) (hV : V ≠ bc) (hw : w.heap.size ≤ bc) (hap : Apart ca cn bc) : DrSt w W' B T bc R V ca cn cc p' bs pl ua k uc L a n xs :=
  ⟨(hk.block R (row_lt h.res) hR).trans h.res, (hk.block V (row_lt h.box) hV).trans h.box, fun W2 h1 h2 => h.stab W2 h1 fun q hq1 hq2 => (h2 q hq1 hq2).trans (hk.block q (Nat.lt_of_lt_of_le hq2 h.low) (by omega)), Nat.le_trans h.low hk.size, hc, h.byt.kept hk hap, h.kept.trans ((hk.mono h.kept.size).below hw)⟩

/-- What a draw leaves stays while what lies from B to T stays. -/
def Stab (B : Nat) (w' : World) (ua : Option Addr) (k : Nat) (L : List (List Int)) (a : Option Addr) (n : Nat) (xs : List Int) : Prop :=
  ∀ W, w'.heap.size ≤ W.heap.size → (∀ q, B ≤ q → q < w'.heap.size → W.heap[q]? = w'.heap[q]?) → Lists W ua (3 * k) L ∧ Row W a n xs

theorem DrSt.done {w W : World} {B T bc R V cn cc p k uc n : Nat} {ca ua a : Option Addr} {bs xs : List Int} {pl : Int} {L : List (List Int)} (h : DrSt w W B T bc R V ca cn cc p bs pl ua k uc L a n xs) (hw : w.heap.size ≤ R) (hB : R < B) (D : Array Value) : Stab w.heap.size (W.setRow R D) ua k L a n xs ∧ Below w.heap.size w (W.setRow R D) := by
  have hz : (W.setRow R D).heap.size = W.heap.size := by simp [World.setRow]
  have hl := h.low
  refine ⟨fun W' h1 h2 => h.stab W' (by omega) fun q hq1 hq2 => (h2 q (by omega) (by omega)).trans (setRow_otherW _ (by omega) _), h.kept.os, h.kept.tape, h.kept.output, by rw [hz]; exact h.kept.size, fun q hq => (setRow_otherW _ (by omega) _).trans (h.kept.block q hq)⟩

theorem step_num (r r2 : Nat) (hr : r < 6) (hr2 : r2 < 12) : IntKind.i64.wrap ((r : Int) - IntKind.i64.wrap ((r2 : Int) / 11)) = (r : Int) - (r2 : Int) / 11 := by
  have e1 : IntKind.i64.wrap ((r2 : Int) / 11) = (r2 : Int) / 11 := by rw [IntKind.wrap_i64]; omega
  rw [e1, IntKind.wrap_i64]; omega

def SBDr (w : World) (e : Ending) (w' : World) : Prop :=
  ∃ (pl : Int) (ua : Option Addr) (k uc : Nat) (L : List (List Int)) (a : Option Addr) (n c : Nat) (xs : List Int) (t : Int), e = .returned (.tuple #[.agg #[.int .i64 pl, .slice ua k uc], .int .i64 t, .slice a n c]) ∧ (0 ≤ pl ∧ pl ≤ 17) ∧ k ≤ 61 ∧ sizeN k L ≤ 6400 ∧ n ≤ 60 ∧ Stab w.heap.size w' ua k L a n xs ∧ Below w.heap.size w w' ∧ (-1 ≤ t ∧ t ≤ 5)

def XpDr (w : World) (e : Ending) (w' : World) : Prop :=
  ∃ (pl : Int) (ua : Option Addr) (k uc : Nat) (L : List (List Int)) (a : Option Addr) (n c : Nat) (xs : List Int) (bg : Int), e = .returned (.tuple #[.agg #[.int .i64 pl, .slice ua k uc], .slice a n c, .int .i64 bg]) ∧ (0 ≤ pl ∧ pl ≤ 17) ∧ k ≤ 61 ∧ sizeN k L ≤ 6400 ∧ n ≤ 60 ∧ Stab w.heap.size w' ua k L a n xs ∧ Below w.heap.size w w' ∧ (0 ≤ bg ∧ bg ≤ 401)

def BoDr (w : World) (e : Ending) (w' : World) : Prop :=
  ∃ (pl : Int) (ua : Option Addr) (k uc : Nat) (L : List (List Int)) (a : Option Addr) (n c : Nat) (xs : List Int) (bg t : Int), e = .returned (.tuple #[.agg #[.int .i64 pl, .slice ua k uc], .slice a n c, .int .i64 bg, .int .i64 t]) ∧ (0 ≤ pl ∧ pl ≤ 17) ∧ k ≤ 61 ∧ sizeN k L ≤ 6400 ∧ n ≤ 60 ∧ Stab w.heap.size w' ua k L a n xs ∧ Below w.heap.size w w' ∧ (0 ≤ bg ∧ bg ≤ 401) ∧ (-1 ≤ t ∧ t ≤ 5)

end Go.Proofs.Ytajcmamapmeglaa


/- DrawIsSiphon: a net and a set of its places, whatever the bytes; nothing that was there is written. -/
namespace Go.Proofs.Ytajcmamapmeglaa
open Go.RowKit
set_option maxRecDepth 10000

def IsDr (w : World) (e : Ending) (w' : World) : Prop :=
  ∃ (pl : Int) (ua : Option Addr) (k uc : Nat) (L : List (List Int)) (a : Option Addr) (n c : Nat) (xs : List Int), e = .returned (.tuple #[.agg #[.int .i64 pl, .slice ua k uc], .slice a n c]) ∧ (0 ≤ pl ∧ pl ≤ 60) ∧ k ≤ 61 ∧ sizeN k L ≤ 6400 ∧ n ≤ 16 ∧ Stab w.heap.size w' ua k L a n xs ∧ Below w.heap.size w w'

set_option maxHeartbeats 2000000 in
theorem drawIs_any (ca : Option Addr) (cn cc : Nat) (bs : List Int) (w : World) (hr : RowB w ca cn bs) (hn : cn ≤ 1048576) :
    Calls Try.prog 31 #[.slice ca cn cc] w fun e w' => IsDr w e w' := by
  have hA := below_al w (.cells #[.int .i64 0, .slice none 0 0] 26)
  have hA2 := below_al (w.alloc (.cells #[.int .i64 0, .slice none 0 0] 26)) (.cells #[.slice ca cn cc, .int .i64 0, .int .u64 0] 54)
  have HB := hide (hA.trans (hA2.mono hA.size))
  have HR := hide (hr.below HB.out)
  have HAP : Hid (Apart ca cn (w.heap.size + 1)) := fun h0 y hy => by have := hr.far h0 y hy; omega
  have HC : Hid (Cur ((w.alloc (.cells #[.int .i64 0, .slice none 0 0] 26)).alloc (.cells #[.slice ca cn cc, .int .i64 0, .int .u64 0] 54)) (w.heap.size + 1) ca cn cc 0) := ⟨0, by have := heap_alloc_new (w.alloc (.cells #[.int .i64 0, .slice none 0 0] 26)) (.cells #[.slice ca cn cc, .int .i64 0, .int .u64 0] 54); simpa using this⟩
  have HRES : Hid (((w.alloc (.cells #[.int .i64 0, .slice none 0 0] 26)).alloc (.cells #[.slice ca cn cc, .int .i64 0, .int .u64 0] 54)).heap[w.heap.size]? = some (.cells #[.int .i64 0, .slice none 0 0] 26 (0, 0))) := by
    show ((w.alloc _).alloc _).heap[w.heap.size]? = _
    rw [hA2.block _ (by simp)]; exact heap_alloc_new _ _
  have HSZ : Hid (((w.alloc (.cells #[.int .i64 0, .slice none 0 0] 26)).alloc (.cells #[.slice ca cn cc, .int .i64 0, .int .u64 0] 54)).heap.size = w.heap.size + 2) := by show _ = _; simp
  clear hr hA hA2
  go_enter Try.func31, Try.ntmps31
  go_wp2_with fail
  generalize (w.alloc (.cells #[.int .i64 0, .slice none 0 0] 26)).alloc (.cells #[.slice ca cn cc, .int .i64 0, .int .u64 0] 54) = w2 at HB HR HC HRES HSZ ⊢
  generalize hbb : w.heap.size + 1 = bc at HAP HC HSZ ⊢
  refine (kept_draw bc ca cn cc 0 bs _ HC.out HR.out HAP.out (by omega) hn).mono ?_
  rintro e v1 ⟨pl, ua, k, uc, L, p1, rfl, hpl, hk, hsz, hp1, hstab, hcur, hby, hkp⟩
  have hA := below_al v1 (.cells #[.int .i64 pl, .slice ua k uc] 26)
  have hz2 := HSZ.out
  have hz1 := hkp.size
  have hbl := hcur.lt
  obtain ⟨B, hB⟩ : ∃ B, B = w2.heap.size := ⟨_, rfl⟩
  have S1 : Hid (DrSt w (v1.alloc (.cells #[.int .i64 pl, .slice ua k uc] 26)) B v1.heap.size bc w.heap.size v1.heap.size ca cn cc p1 bs pl ua k uc L none 0 []) :=
    ⟨(hA.block _ (by omega)).trans ((hkp.block _ (by omega) (by omega)).trans HRES.out), heap_alloc_new v1 _,
      fun W' h1 h2 => ⟨hstab W' h1 fun q hq1 hq2 => (h2 q (by omega) hq2).trans (hA.block q hq2), rfl, .inl rfl⟩, hA.size, hcur.below hA hbl, hby.kept (Kept.of_below (bc := bc) hA) HAP.out,
      (HB.out.trans ((hkp.mono HB.out.size).below (by omega))).trans (hA.mono (by omega))⟩
  have hbB : bc < B := by omega
  have hRb : w.heap.size ≠ bc := by omega
  have hVb : v1.heap.size ≠ bc := by omega
  have hwb : w.heap.size ≤ bc := by omega
  have hRB : w.heap.size < B := by omega
  have hVR : v1.heap.size ≠ w.heap.size := by omega
  clear HB HR HC HRES HSZ hstab hcur hby hkp hA hz2 hz1 hbl hB hbb
  go_wp2_with fail
  generalize v1.alloc (.cells #[.int .i64 pl, .slice ua k uc] 26) = W3 at S1 ⊢
  generalize v1.heap.size = V at *
  have S2 := hide (S1.out.go (Kept.of_below (bc := bc) (Below.refl _ W3).drew) (S1.out.cur.below (Below.refl _ W3).drew S1.out.cur.lt) hbB hRb hVb hwb HAP.out)
  clear S1
  refine wp_region_held_drew (S := (fun W : World => W.heap[V]? = some (.cells #[.int .i64 pl, .slice ua k uc] 26 (0, 0)))) (by kernel_rfl) S2.out.box (fun hHeld => ?_)
  have hSv : (fun W : World => W.heap[V]? = some (.cells #[.int .i64 pl, .slice ua k uc] 26 (0, 0))) W3.drew := S2.out.box
  clear hHeld
  generalize W3.drew = vd at *
  refine take_yes (i := 0) (some 11) (.agg #[.int .i64 pl, .slice ua k uc]) rfl rfl (by kernel_rfl) (by kernel_rfl) (by kernel_rfl) (fun _ _ _ h => h) (by rfl) ?_ (by assumption) ?_
  · intro W' hSw
    exact exec_load_rowW 26 _ rfl _ rfl 26 _ _ _ hSw Try.underlying26 rfl Try.size26w
  simp only [Act.put, List.setIfInBounds_toArray, List.set_cons_zero, List.set_cons_succ]
  refine take_yes (i := 1) (some 12) (.pointer (some ⟨bc, 0, none⟩)) rfl rfl (by kernel_rfl) (by kernel_rfl) (by kernel_rfl) (fun _ _ _ h => h) (by rfl) ?_ (by assumption) ?_
  · intro W' hSw
    go_simp
  simp only [Act.put, List.setIfInBounds_toArray, List.set_cons_zero, List.set_cons_succ]
  refine take_yes (i := 2) (some 13) (.agg #[.int .i64 pl, .slice ua k uc]) rfl rfl (by kernel_rfl) (by kernel_rfl) (by kernel_rfl) (fun _ _ _ h => h) (by rfl) ?_ (by assumption) ?_
  · intro W' hSw
    exact exec_load_rowW 26 _ rfl _ rfl 26 _ _ _ hSw Try.underlying26 rfl Try.size26w
  simp only [Act.put, List.setIfInBounds_toArray, List.set_cons_zero, List.set_cons_succ]
  have HNS : Hid (∀ W, Kept bc vd.heap.size vd W → Lists W ua (3 * k) L) := fun W hW => (S2.out.stab W (Nat.le_trans S2.out.low hW.size) fun q hq1 hq2 => hW.block q (Nat.lt_of_lt_of_le hq2 S2.out.low) (by omega)).1
  refine call_next (i := 3) (some 14) rfl rfl (by kernel_rfl) (by rfl) 86 _ _ _ rfl Try.func86 (by decide) rfl #[.pointer (some ⟨bc, 0, none⟩), .agg #[.int .i64 pl, .slice ua k uc]] (mapw2 _ _ _ _ _ rfl rfl) _ (placeSet_draw pl ua k uc L bc ca cn cc p1 bs vd S2.out.cur S2.out.byt HAP.out (by omega) hn hpl (by omega) HNS.out) ?_
  rintro e v3 ⟨a, n, c, xs, p2, rfl, hn16, hp2, hrow, hloc, hcur, hby, hkp⟩
  have hRvd : w.heap.size < vd.heap.size := row_lt S2.out.res
  have S3 := hide (S2.out.go hkp hcur hbB hRb hVb hwb HAP.out)
  clear S2 hSv hcur hby hkp HNS
  refine ⟨_, rfl, S3.out.box, fun hSv => ?_⟩
  simp only [Act.put, List.setIfInBounds_toArray, List.set_cons_zero, List.set_cons_succ]
  have hg0 := S3.out.res
  have hnone : (#[.int .i64 pl, .slice ua k uc] : Array Value).all (·.oneCell') = true := by simp [Value.oneCell']
  have hS5 : (fun W : World => W.heap[V]? = some (.cells #[.int .i64 pl, .slice ua k uc] 26 (0, 0))) (v3.setRow w.heap.size #[.int .i64 pl, .slice ua k uc]) := (setRow_otherW _ hVR _).trans S3.out.box
  obtain ⟨hfl, hfb⟩ := S3.out.done (Nat.le_refl _) hRB #[.int .i64 pl, .slice ua k uc]
  have HE : Hid (IsDr w (.returned (.tuple #[.agg #[.int .i64 pl, .slice ua k uc], .slice a n c])) (v3.setRow w.heap.size #[.int .i64 pl, .slice ua k uc])) := by
    have hsz3 : (v3.setRow w.heap.size #[.int .i64 pl, .slice ua k uc]).heap.size = v3.heap.size := by simp [World.setRow]
    exact ⟨pl, ua, k, uc, L, a, n, c, xs, rfl, hpl, hk, hsz, hn16, fun W h1 h2 => ⟨(hfl W h1 h2).1, hrow.movedV hloc (by omega) fun q hq1 hq2 => (h2 q (by omega) (by omega)).trans (setRow_otherW _ (by omega) _)⟩, hfb⟩
  have hz5 := setRow_sameW hg0 #[.int .i64 pl, .slice ua k uc]
  have hy0 := cell_of_row _ w.heap.size 0 _ _ _ hz5
  have hy1 := cell_of_row _ w.heap.size 1 _ _ _ hz5
  simp at hy0 hy1
  clear hfl hfb hSv
  refine store_next (i := 4) rfl rfl (by kernel_rfl) (by rfl) 26 _ _ rfl w.heap.size #[.int .i64 pl, .slice ua k uc] rfl rfl 26 _ hg0 Try.size26w rfl hnone hS5 (fun _ => ?_)
  refine take_yes (i := 5) (some 3) (.slice a n c) rfl rfl (by kernel_rfl) (by kernel_rfl) (by kernel_rfl) (fun _ _ _ h => h) (by rfl) ?_ (by assumption) ?_
  · intro W' hSw
    go_simp
  simp only [Act.put, List.setIfInBounds_toArray, List.set_cons_zero, List.set_cons_succ]
  refine wpAnyH_done (by kernel_rfl) ?_ _
  go_wp2_with fail
  refine bodyPost_ret (v := .tuple #[.agg #[.int .i64 pl, .slice ua k uc], .slice a n c]) (by simp [results, Try.results31, go_sem, hy0, hy1]) rfl ?_
  exact HE.out


end Go.Proofs.Ytajcmamapmeglaa


/- What a law over a drawn net and drawn lists keeps in mind. -/
namespace Go.Proofs.Ytajcmamapmeglaa
open Go.RowKit
set_option maxRecDepth 10000

structure Mst (w v : World) (V : Nat) (pl : Int) (a : Option Addr) (k c : Nat) (L : List (List Int)) (rows : List (Option Addr × Nat × List Int)) (ma : Option Addr) (mn : Nat) (cs : List Int) : Prop where
  old : Below w.heap.size w v
  var : v.heap[V]? = some (.cells #[.int .i64 pl, .slice a k c] 26 (0, 0))
  net : Lists v a (3 * k) L
  rows : Rs v rows
  more : RowB v ma mn cs

section
variable {w v v' : World} {V : Nat} {pl : Int} {a : Option Addr} {k c : Nat} {L : List (List Int)} {rows : List (Option Addr × Nat × List Int)} {ma : Option Addr} {mn : Nat} {cs : List Int}

theorem Mst.grow (h : Mst w v V pl a k c L rows ma mn cs) (hb : Below v.heap.size v v') : Mst w v' V pl a k c L rows ma mn cs :=
  ⟨h.old.trans (hb.mono h.old.size), (hb.block V (Array.getElem?_eq_some_iff.mp h.var).1).trans h.var, h.net.below hb, h.rows.below hb, h.more.below hb⟩
theorem Mst.add (h : Mst w v V pl a k c L rows ma mn cs) {b : Option Addr} {n : Nat} {xs : List Int} (hr : Row v b n xs) : Mst w v V pl a k c L ((b, n, xs) :: rows) ma mn cs := ⟨h.old, h.var, h.net, Rs.cons hr h.rows, h.more⟩
theorem Mst.c0 (h : Mst w v V pl a k c L rows ma mn cs) : v.cell? ⟨V, 0, none⟩ = some (.int .i64 pl) := cell_of_row v V 0 _ _ _ h.var
theorem Mst.c1 (h : Mst w v V pl a k c L rows ma mn cs) : v.cell? ⟨V, 1, none⟩ = some (.slice a k c) := cell_of_row v V 1 _ _ _ h.var
end
end Go.Proofs.Ytajcmamapmeglaa
