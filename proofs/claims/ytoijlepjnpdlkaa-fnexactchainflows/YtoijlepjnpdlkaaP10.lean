/- Contracts that the proof stands on, one behind the other. -/
import Derived.Test.YtoijlepjnpdlkaaP9
import Derived.Deep.Onto
/- l1Put and l3Moved of the specification, with what they hold. -/
namespace Go.Proofs.Ytoijlepjnpdlkaa
open Go.RowKit
set_option maxRecDepth 10000

theorem ins_pair {xs : List Int} {k : Nat} {x : Int} (hs : List.Pairwise (· < ·) xs) (h1 : ∀ z ∈ xs.take k, z < x) (h2 : ∀ z ∈ xs.drop k, x < z) : List.Pairwise (· < ·) (xs.take k ++ [x] ++ xs.drop k) := by
  have e : List.Pairwise (· < ·) (xs.take k ++ xs.drop k) := by rw [List.take_append_drop]; exact hs
  rw [List.pairwise_append] at e
  obtain ⟨e1, e2, e3⟩ := e
  rw [List.pairwise_append, List.pairwise_append]
  refine ⟨⟨e1, by simp, fun a ha b hb => ?_⟩, e2, fun a ha b hb => ?_⟩
  · rw [List.mem_singleton] at hb; rw [hb]; exact h1 a ha
  · rw [List.mem_append, List.mem_singleton] at ha
    rcases ha with ha | ha
    · exact e3 a ha b hb
    · rw [ha]; exact h2 b hb

theorem ins_mem (xs : List Int) (k : Nat) (x z : Int) : z ∈ xs.take k ++ [x] ++ xs.drop k ↔ z = x ∨ z ∈ xs := by
  have e : z ∈ xs ↔ z ∈ xs.take k ∨ z ∈ xs.drop k := by rw [← List.mem_append, List.take_append_drop]
  rw [e, List.mem_append, List.mem_append, List.mem_singleton]
  constructor
  · rintro ((h | h) | h)
    · exact .inr (.inl h)
    · exact .inl h
    · exact .inr (.inr h)
  · rintro (h | h | h)
    · exact .inl (.inr h)
    · exact .inl (.inl h)
    · exact .inr h

theorem take_lt {xs : List Int} {k : Nat} {x y : Int} (hy : xs[k]? = some y) (h : ∀ z ∈ xs.take k, z < x) (hx : y < x) : ∀ z ∈ xs.take (k + 1), z < x := by
  intro z hz
  rw [List.take_add_one, hy, List.mem_append] at hz
  rcases hz with hz | hz
  · exact h z hz
  · simp at hz; omega

theorem drop_gt {xs : List Int} {k : Nat} {x y : Int} (hs : List.Pairwise (· < ·) xs) (hy : xs[k]? = some y) (hx : x < y) : ∀ z ∈ xs.drop k, x < z := by
  obtain ⟨hk, e⟩ := List.getElem?_eq_some_iff.1 hy
  rw [List.drop_eq_getElem_cons hk, e]
  have e2 : List.Pairwise (· < ·) (xs.drop k) := hs.sublist (List.drop_sublist _ _)
  rw [List.drop_eq_getElem_cons hk, e, List.pairwise_cons] at e2
  intro z hz
  rw [List.mem_cons] at hz
  rcases hz with hz | hz
  · omega
  · have := e2.1 z hz; omega

/-- How l1Put ends, with what it holds. -/
def Put3 (lo : Nat) (x : Int) (xs : List Int) (w : World) (e : Ending) (w' : World) : Prop :=
  ∃ (v : Value) (n : Nat) (ys : List Int), e = .returned v ∧ w'.ownsRow lo 3 1 v n (ys.map (Value.int .i64)) ∧ Below w.heap.size w w' ∧ List.Pairwise (· < ·) ys ∧ (∀ z, z ∈ ys ↔ z = x ∨ z ∈ xs) ∧ 1 ≤ n ∧ n ≤ xs.length + 1

theorem put3_of {lo : Nat} {x : Int} {xs ys : List Int} {w v : World} {u : Value} {m : Nat} (hlo : lo ≤ w.heap.size) (h : PutSt w v u m ys) (hm : 1 ≤ m) (hmn : m ≤ xs.length + 1) (hp : List.Pairwise (· < ·) ys) (hz : ∀ z, z ∈ ys ↔ z = x ∨ z ∈ xs) : Put3 lo x xs w (.returned u) v :=
  ⟨u, m, ys, rfl, World.ownsRow.mono h.own hlo, h.bel, hp, hz, hm, hmn⟩

set_option maxHeartbeats 1000000 in
theorem put3_nil (lo : Nat) (x : Int) (w : World) (hlo : lo ≤ w.heap.size) :
    Calls Try.prog 28 #[.slice none 0 0, .int .i64 x] w fun e w' => Put3 lo x [] w e w' := by
  obtain ⟨i0, hi, hz0, hz1, hz2⟩ := info_split Try.info3
  have P0 := hide (PutSt.first w)
  go_enter Try.func28, Try.ntmps28
  go_wp2_with fail
  go_loop [5] (fun i => i = .int .i64 0) (fun _ => 0)
  case atStart => rfl
  case round =>
    obtain rfl := hrel
    go_wp2_with (at_builtin; first
      | (refine wpList_append_any _ rfl (.tmp 34) (.tmp 37) 42 rfl w.heap.size 3 i0 (.int .i64 0) 1 8 Try.underlying42 hi hz0 hz1 hz2 rfl (by decide) (.slice (some ⟨w.heap.size, 0, none⟩) 0 0) 0 [] rfl P0.out.own none 0 0 [] rfl rfl (fun _ => ⟨rfl, rfl⟩) (fun ad h => by cases h) (by simp) (by unfold maxLen; omega) (by omega) (by simp) ?_; intro u1 W1 r1 r2; have P1 := hide ((P0.out.step (q := 0) (zs := []) r1 r2).alloc (.cells #[.int .i64 x] 3)); clear r1 r2)
      | (refine wpList_append_own _ rfl (.tmp 39) (.tmp 41) 42 rfl w.heap.size 3 i0 (.int .i64 0) 1 8 Try.underlying42 hi hz0 hz1 hz2 rfl (by decide) u1 _ _ rfl P1.out.own ⟨W1.heap.size, 0, none⟩ 1 1 [.int .i64 x] rfl rfl (cell_one_new _ _ _) (by simp [Value.oneCell']) (by unfold maxLen; omega) (by omega) (Nat.le_trans P1.out.bel.size (Nat.le_refl _)) ?_; intro u2 W2 r1 r2 _; have P2 := hide (P1.out.step (q := 1) (zs := [x]) r1 r2); clear r1 r2)
      | (refine wpList_append_any _ rfl (.tmp 43) (.tmp 46) 42 rfl w.heap.size 3 i0 (.int .i64 0) 1 8 Try.underlying42 hi hz0 hz1 hz2 rfl (by decide) u2 _ _ rfl P2.out.own none 0 0 [] rfl rfl (fun _ => ⟨rfl, rfl⟩) (fun ad h => by cases h) (by simp) (by unfold maxLen; omega) (by omega) P2.out.bel.size ?_; intro u3 W3 r1 r2; have P3 := hide (P2.out.step (q := 0) (zs := []) r1 r2); clear r1 r2))
    go_ret
    exact put3_of hlo P3.out (by omega) (by first | (have := hlen.out; omega) | simp) (by simp) (by simp)

set_option maxHeartbeats 2000000 in
theorem put3_some (lo b n c : Nat) (xs : List Int) (x : Int) (w : World) (how : w.ownsRow lo 3 1 (.slice (some ⟨b, 0, none⟩) n c) n (xs.map (Value.int .i64))) (h : Row w (some ⟨b, 0, none⟩) n xs) (hn : n ≤ 1000) (hn1 : 1 ≤ n) (hc : n ≤ c) (hc2 : c ≤ maxLen) (hlo : lo ≤ w.heap.size) (hs : List.Pairwise (· < ·) xs) :
    Calls Try.prog 28 #[.slice (some ⟨b, 0, none⟩) n c, .int .i64 x] w fun e w' => Put3 lo x xs w e w' := by
  have HR := hide h
  have hlen := hide h.1
  unfold maxLen at hc2
  clear h
  have HOW := hide how
  have HPS := hide hs
  clear how hs
  obtain ⟨i0, hi, hz0, hz1, hz2⟩ := info_split Try.info3
  have P0 := hide (PutSt.first w)
  go_enter Try.func28, Try.ntmps28
  go_wp2_with fail
  go_loop [5] (fun i => ∃ k : Nat, k ≤ n ∧ i = .int .i64 k ∧ Hid (∀ z ∈ xs.take k, z < x)) (fun i => n - (intOf i).toNat)
  case atStart => exact ⟨0, Nat.zero_le _, rfl, (fun z hz => by simp at hz)⟩
  case round =>
    obtain ⟨k, hk, rfl, HLT⟩ := hrel
    have HC1 := hide (fun W (hb : Below w.heap.size w W) => cells_upto (HR.out.below hb) hk _ rfl)
    by_cases hlt : k < n
    · obtain ⟨b1, o1, y, he, hl1, hc1, H1⟩ := HR.out.at hlt
      have HYX := hide H1.out
      obtain ⟨rfl, rfl⟩ : b1 = b ∧ o1 = 0 := by simpa [eq_comm] using he
      rw [Nat.zero_add] at hc1
      have hki : (k : Int) < (n : Int) := by omega
      have hkn : k < n := hlt
      have hkc : ¬ c = k := by omega
      have HC2 := hide (fun W (hb : Below w.heap.size w W) => cells_behind (HR.out.below hb) hlt b1 0 rfl)
      rw [Nat.zero_add] at HC2
      clear he hlt
      by_cases hy : y < x
      · go_wp2_with fail
        go_round
        case rel => exact ⟨k + 1, by omega, by go_num, take_lt HYX.out HLT.out hy⟩
        case measure => simp [intOf]; omega
      · by_cases hy2 : y = x
        · go_wp2_with fail
          go_ret
          exact ⟨_, n, xs, rfl, HOW.out, Below.refl _ _, HPS.out, fun z => ⟨.inr, fun h => by rcases h with h | h; exact (by rw [h, ← hy2]; exact List.mem_of_getElem? HYX.out); exact h⟩, hn1, by have := hlen.out; omega⟩
        · go_wp2_with (at_builtin; first
            | (refine wpList_append_any _ rfl (.tmp 34) (.tmp 37) 42 rfl w.heap.size 3 i0 (.int .i64 0) 1 8 Try.underlying42 hi hz0 hz1 hz2 rfl (by decide) (.slice (some ⟨w.heap.size, 0, none⟩) 0 0) 0 [] rfl P0.out.own (some ⟨b1, 0, none⟩) k c ((xs.take k).map (Value.int .i64)) rfl (by have := hlen.out; simp; omega) (fun h => by cases h) (fun ad h => by cases h; exact HC1.out _ P0.out.bel) (ints_oneCell _ _) (by unfold maxLen; omega) (by omega) (by simp) ?_; intro u1 W1 r1 r2; have P1 := hide ((P0.out.step (q := k) (zs := xs.take k) r1 r2).alloc (.cells #[.int .i64 x] 3)); clear r1 r2)
            | (refine wpList_append_own _ rfl (.tmp 39) (.tmp 41) 42 rfl w.heap.size 3 i0 (.int .i64 0) 1 8 Try.underlying42 hi hz0 hz1 hz2 rfl (by decide) u1 _ _ rfl P1.out.own ⟨W1.heap.size, 0, none⟩ 1 1 [.int .i64 x] rfl rfl (cell_one_new _ _ _) (by simp [Value.oneCell']) (by unfold maxLen; omega) (by omega) P1.out.bel.size ?_; intro u2 W2 r1 r2 _; have P2 := hide (P1.out.step (q := 1) (zs := [x]) r1 r2); clear r1 r2)
            | (refine wpList_append_own _ rfl (.tmp 43) (.tmp 46) 42 rfl w.heap.size 3 i0 (.int .i64 0) 1 8 Try.underlying42 hi hz0 hz1 hz2 rfl (by decide) u2 _ _ rfl P2.out.own ⟨b1, k, none⟩ (n - k) (c - k) ((xs.drop k).map (Value.int .i64)) rfl (by have := hlen.out; simp; omega) (HC2.out _ P2.out.bel) (ints_oneCell _ _) (by unfold maxLen; omega) (by omega) P2.out.bel.size ?_; intro u3 W3 r1 r2 _; have P3 := hide (P2.out.step (q := n - k) (zs := xs.drop k) r1 r2); clear r1 r2))
          go_ret
          have hgt := drop_gt HPS.out HYX.out (show x < y by omega)
          exact put3_of hlo P3.out (by omega) (by first | (have := hlen.out; omega) | simp) (ins_pair HPS.out HLT.out hgt) (ins_mem xs k x)
    · have hk' : k = n := by omega
      have hki : ¬ (k : Int) < (n : Int) := by omega
      subst hk'
      go_wp2_with (at_builtin; first
        | (refine wpList_append_any _ rfl (.tmp 34) (.tmp 37) 42 rfl w.heap.size 3 i0 (.int .i64 0) 1 8 Try.underlying42 hi hz0 hz1 hz2 rfl (by decide) (.slice (some ⟨w.heap.size, 0, none⟩) 0 0) 0 [] rfl P0.out.own (some ⟨b, 0, none⟩) k c ((xs.take k).map (Value.int .i64)) rfl (by have := hlen.out; simp; omega) (fun h => by cases h) (fun ad h => by cases h; exact HC1.out _ P0.out.bel) (ints_oneCell _ _) (by unfold maxLen; omega) (by omega) (by simp) ?_; intro u1 W1 r1 r2; have P1 := hide ((P0.out.step (q := k) (zs := xs.take k) r1 r2).alloc (.cells #[.int .i64 x] 3)); clear r1 r2)
        | (refine wpList_append_own _ rfl (.tmp 39) (.tmp 41) 42 rfl w.heap.size 3 i0 (.int .i64 0) 1 8 Try.underlying42 hi hz0 hz1 hz2 rfl (by decide) u1 _ _ rfl P1.out.own ⟨W1.heap.size, 0, none⟩ 1 1 [.int .i64 x] rfl rfl (cell_one_new _ _ _) (by simp [Value.oneCell']) (by unfold maxLen; omega) (by omega) P1.out.bel.size ?_; intro u2 W2 r1 r2 _; have P2 := hide (P1.out.step (q := 1) (zs := [x]) r1 r2); clear r1 r2)
        | (refine wpList_append_any _ rfl (.tmp 43) (.tmp 46) 42 rfl w.heap.size 3 i0 (.int .i64 0) 1 8 Try.underlying42 hi hz0 hz1 hz2 rfl (by decide) u2 _ _ rfl P2.out.own _ _ _ [] rfl (by simp) (by intro h; first | cases h | (split at h <;> cases h)) (by intro ad _ j u hu; simp at hu) (by simp) (by unfold maxLen; omega) (by omega) P2.out.bel.size ?_; intro u3 W3 r1 r2; have P3 := hide (P2.out.step (zs := []) r1 r2); clear r1 r2))
      all_goals go_ret
      all_goals exact put3_of hlo P3.out (by omega) (by first | (have := hlen.out; omega) | simp) (by have := ins_pair (k := k) HPS.out HLT.out (by rw [List.drop_eq_nil_of_le (by have := hlen.out; omega)]; simp); rw [List.drop_eq_nil_of_le (by have := hlen.out; omega)] at this; simpa using this) (by have := ins_mem xs k x; rw [List.drop_eq_nil_of_le (by have := hlen.out; omega)] at this; simpa using this)

theorem put3_any (lo : Nat) (v : Value) (n : Nat) (xs : List Int) (x : Int) (w : World) (how : w.ownsRow lo 3 1 v n (xs.map (Value.int .i64))) (h0 : n = 0 → v = .slice none 0 0) (hn : n ≤ 1000) (hlo : lo ≤ w.heap.size) (hs : List.Pairwise (· < ·) xs) :
    Calls Try.prog 28 #[v, .int .i64 x] w fun e w' => Put3 lo x xs w e w' := by
  by_cases hz : n = 0
  · have hv := h0 hz
    subst hv
    have hx : xs = [] := by have := how.1; simp [hz] at this; exact this
    subst hx
    exact put3_nil lo x w hlo
  · have h2 := how.2
    rcases h2 with ⟨_, h1⟩ | ⟨g, cap, cur, rfl, hbg, hh, hnc, hcm, hsz, ht⟩
    · omega
    · obtain ⟨a', c', e, hr⟩ := ownsRow_row2 how
      obtain ⟨rfl, rfl⟩ : a' = some ⟨g, 0, none⟩ ∧ c' = cap := by simpa [eq_comm] using e
      exact put3_some lo g n c' xs x w how hr hn (by omega) hnc hcm hlo hs

theorem pair_same {xs ys : List Int} (hx : List.Pairwise (· < ·) xs) (hy : List.Pairwise (· < ·) ys) (h : ∀ z, z ∈ xs ↔ z ∈ ys) : xs = ys := by
  induction xs generalizing ys with
  | nil =>
    cases ys with
    | nil => rfl
    | cons y ys => exact absurd ((h y).2 (by simp)) (by simp)
  | cons x xs ih =>
    cases ys with
    | nil => exact absurd ((h x).1 (by simp)) (by simp)
    | cons y ys =>
      rw [List.pairwise_cons] at hx hy
      have e : x = y := by
        have a1 := (h x).1 (by simp)
        have a2 := (h y).2 (by simp)
        rw [List.mem_cons] at a1 a2
        rcases a1 with a1 | a1
        · exact a1
        · rcases a2 with a2 | a2
          · exact a2.symm
          · have := hy.1 x a1; have := hx.1 y a2; omega
      subst e
      rw [ih hx.2 hy.2 (fun z => ?_)]
      constructor
      · intro hz
        have := (h z).1 (by simp [hz])
        rw [List.mem_cons] at this
        rcases this with r | r
        · have := hx.1 z hz; omega
        · exact r
      · intro hz
        have := (h z).2 (by simp [hz])
        rw [List.mem_cons] at this
        rcases this with r | r
        · have := hy.1 z hz; omega
        · exact r

/-- What l3Moved has come to. -/
structure MvInv (w wr : World) (o : Value) (q : Nat) (ys : List Int) (xs ats : List Int) (k : Nat) : Prop where
  own : wr.ownsRow w.heap.size 3 1 o q (ys.map (Value.int .i64))
  nil : q = 0 → o = .slice none 0 0
  few : q ≤ k
  pair : List.Pairwise (· < ·) ys
  mem : ∀ z, z ∈ ys ↔ ∃ x ∈ xs.take k, ats.getD x.toNat 0 = z
  bel : Below w.heap.size w wr

set_option maxHeartbeats 2000000 in
theorem moved3_any (a : Option Addr) (n c : Nat) (xs : List Int) (g m : Nat) (ats R : List Int) (w : World) (hx : Row w a n xs) (ha : Row w (some ⟨g, 0, none⟩) m ats) (hn : n ≤ 1000) (hr : ∀ x ∈ xs, 0 ≤ x ∧ x < (m : Int)) (hR : List.Pairwise (· < ·) R) (hm : ∀ z, z ∈ R ↔ ∃ x ∈ xs, ats.getD x.toNat 0 = z) :
    Calls Try.prog 14 #[.slice a n c, .slice (some ⟨g, 0, none⟩) m m] w fun e w' => ∃ a' g' c', e = .returned (.slice a' R.length c') ∧ w.heap.size ≤ g' ∧ Ob w' a' g' R.length R ∧ Below w.heap.size w w' := by
  have HX := hide hx
  have HAT := hide ha
  have HR := hide hr
  have HP := hide hR
  have HM := hide hm
  have HI0 : Hid (MvInv w w (.slice none 0 0) 0 [] xs ats 0) := ⟨⟨rfl, .inl ⟨rfl, rfl⟩⟩, fun _ => rfl, Nat.le_refl _, List.Pairwise.nil, by simp, Below.refl _ _⟩
  clear hx ha hr hR hm
  go_enter Try.func14, Try.ntmps14
  go_wp2_with fail
  go_loopw [5, 10] (fun o i wr => ∃ k q ys, k ≤ n ∧ i = .int .i64 (k : Nat) ∧ Hid (MvInv w wr o q ys xs ats k)) (fun _ i _ => n - (intOf i).toNat)
  case atStart => exact ⟨0, _, _, Nat.zero_le _, rfl, HI0⟩
  case round =>
    obtain ⟨k, q, ys, hk, rfl, hin⟩ := hrel
    clear HI0
    by_cases hlt : k < n
    · obtain ⟨b, off, x, rfl, hb, hc, H1⟩ := (HX.out.below hin.out.bel).at hlt
      have hxm := HR.out x (List.mem_of_getElem? H1.out)
      obtain ⟨xn, rfl⟩ : ∃ xn : Nat, x = xn := ⟨x.toNat, by omega⟩
      obtain ⟨b2, off2, y, he, hb2, hc2, H2⟩ := (HAT.out.below hin.out.bel).at (show xn < m by omega)
      obtain ⟨rfl, rfl⟩ : b2 = g ∧ off2 = 0 := by simpa [eq_comm] using he
      rw [Nat.zero_add] at hc2
      have hxl : (xn : Int) < (m : Int) := hxm.2
      have HPA := hide (put3_any w.heap.size _ q ys y wr hin.out.own hin.out.nil (by have := hin.out.few; omega) hin.out.bel.size hin.out.pair)
      clear he
      go_wp2_with fail
      refine HPA.out.mono ?_
      rintro e w' ⟨o', q', ys', rfl, p1, p2, p3, p4, p5, p6⟩
      have HI3 : Hid (MvInv w w' o' q' ys' xs ats (k + 1)) := by
        refine ⟨p1, fun h => by omega, ?_, p3, fun z => ?_, hin.out.bel.trans (p2.mono hin.out.bel.size)⟩
        · have := hin.out.few
          have := hin.out.own.1
          simp at this
          omega
        · rw [p4, hin.out.mem, List.take_add_one, H1.out]
          constructor
          · rintro (h | ⟨x, h1, h2⟩)
            · refine ⟨(xn : Int), by simp, ?_⟩
              rw [h, List.getD_eq_getElem?_getD, Int.toNat_natCast, H2.out]; rfl
            · exact ⟨x, by rw [List.mem_append]; exact .inl h1, h2⟩
          · rintro ⟨x, h1, h2⟩
            rw [List.mem_append] at h1
            rcases h1 with h1 | h1
            · exact .inr ⟨x, h1, h2⟩
            · simp at h1
              subst h1
              rw [List.getD_eq_getElem?_getD, Int.toNat_natCast, H2.out] at h2
              exact .inl h2.symm
      clear p1 p2 p3 p4 p5 p6 hin
      go_wp2_with fail
      go_roundw
      case rel => exact ⟨k + 1, _, _, by omega, by go_num, HI3⟩
      case measure => simp [intOf]; omega
    · have hk' : k = n := by omega
      subst hk'
      go_wp2_with fail
      go_ret
      have hys : ys = R := pair_same hin.out.pair HP.out (fun z => by
        rw [hin.out.mem, HM.out, List.take_of_length_le (by have := HX.out.1; omega)])
      have hin' := hin.out
      subst hys
      have hq : q = ys.length := by have := hin'.own.1; simp at this; omega
      subst hq
      obtain ⟨a', g', c', e, hg, ho⟩ := own_ob2 hin'.own
      subst e
      exact ⟨a', g', c', rfl, hg, ho, hin'.bel⟩
end Go.Proofs.Ytoijlepjnpdlkaa


/- The specification's ChainFlows: its table of new places. -/
namespace Go.Proofs.Ytoijlepjnpdlkaa
open Go.RowKit
set_option maxRecDepth 10000

/-- Where the places of the next flow come to lie, as a table. -/
def atL (pa ta sb : Int) (n : Nat) : List Int := (List.range n).map fun (i : Nat) => mvP pa ta sb (i : Int)

theorem atL_len (pa ta sb : Int) (n : Nat) : (atL pa ta sb n).length = n := by simp [atL]

theorem atL_get {pa ta sb : Int} {n i : Nat} (h : i < n) : (atL pa ta sb n).getD i 0 = mvP pa ta sb (i : Int) := by
  unfold atL
  rw [List.getD_eq_getElem?_getD, List.getElem?_map, List.getElem?_range h]
  rfl

theorem atL_succ (pa ta sb : Int) (n : Nat) : atL pa ta sb (n + 1) = atL pa ta sb n ++ [mvP pa ta sb (n : Int)] := by
  unfold atL
  rw [List.range_succ, List.map_append]
  rfl

/-- How many places there are when n places of the next flow have got theirs. -/
def plN (pa sb : Int) (n : Nat) : Int := if sb < (n : Int) then pa + n - 1 else pa + n

theorem plN_zero {pa sb : Int} (h : 0 ≤ sb) : plN pa sb 0 = pa := by
  unfold plN
  rw [if_neg (by simpa using h)]
  simp

theorem plN_here {pa ta sb : Int} {n : Nat} (h : (n : Int) ≠ sb) : mvP pa ta sb (n : Int) = plN pa sb n := by
  unfold mvP plN
  rw [if_neg h]

theorem plN_same {pa sb : Int} {n : Nat} (h : (n : Int) = sb) : plN pa sb (n + 1) = plN pa sb n := by
  unfold plN
  rw [if_pos (by omega), if_neg (by omega)]
  omega

theorem plN_more {pa sb : Int} {n : Nat} (h : (n : Int) ≠ sb) : plN pa sb (n + 1) = plN pa sb n + 1 := by
  unfold plN
  by_cases h1 : sb < (n : Int)
  · rw [if_pos (by omega), if_pos h1]; omega
  · rw [if_neg (by omega), if_neg h1]; omega

theorem plN_all {pa sb : Int} {n : Nat} (h : sb < (n : Int)) : plN pa sb n = pa + n - 1 := by
  unfold plN
  rw [if_pos h]

theorem atL_moved {pa ta sb pb : Int} {n : Nat} {xs : List Int} (hn : (n : Int) = pb) (hta : 0 ≤ ta ∧ ta < pa) (hsb : 0 ≤ sb ∧ sb < pb) (hp : pa + pb - 1 ≤ 16) (hx : ∀ x ∈ xs, 0 ≤ x ∧ x < pb) (z : Int) : z ∈ mvL pa ta sb xs ↔ ∃ x ∈ xs, (atL pa ta sb n).getD x.toNat 0 = z := by
  rw [mvL_mem hta hsb hp hx]
  constructor
  · rintro ⟨x, h1, h2⟩
    refine ⟨x, h1, ?_⟩
    have := hx x h1
    rw [atL_get (by omega), Int.toNat_of_nonneg this.1]
    exact h2
  · rintro ⟨x, h1, h2⟩
    refine ⟨x, h1, ?_⟩
    have := hx x h1
    rw [atL_get (by omega), Int.toNat_of_nonneg this.1] at h2
    exact h2

theorem mvL_pair (pa ta sb : Int) (xs : List Int) : List.Pairwise (· < ·) (mvL pa ta sb xs) := nums2_pair _ _

/-- The places of one transition of the next flow, by the table. -/
theorem moved_chain {pa ta sb pb : Int} {m : Nat} {xs : List Int} (a : Option Addr) (n c g : Nat) (w : World) (hm : (m : Int) = pb) (hta : 0 ≤ ta ∧ ta < pa) (hsb : 0 ≤ sb ∧ sb < pb) (hp : pa + pb - 1 ≤ 16) (hr : ∀ x ∈ xs, 0 ≤ x ∧ x < pb) (hx : Row w a n xs) (ha : Row w (some ⟨g, 0, none⟩) m (atL pa ta sb m)) (hn : n ≤ 1000) :
    Calls Try.prog 14 #[.slice a n c, .slice (some ⟨g, 0, none⟩) m m] w fun e w' => ∃ a' g' c', e = .returned (.slice a' (mvL pa ta sb xs).length c') ∧ w.heap.size ≤ g' ∧ Ob w' a' g' (mvL pa ta sb xs).length (mvL pa ta sb xs) ∧ Below w.heap.size w w' :=
  moved3_any a n c xs g m _ _ w hx ha hn (by rw [hm]; exact hr) (mvL_pair _ _ _ _) (atL_moved hm hta hsb hp hr)
end Go.Proofs.Ytoijlepjnpdlkaa
