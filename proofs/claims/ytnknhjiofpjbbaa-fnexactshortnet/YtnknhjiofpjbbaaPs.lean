/- Sets of places as bits: placesOf, stepOf and netSteps of the program, for every net in memory. -/
import Derived.Test.YtnknhjiofpjbbaaGs
namespace Go.Proofs.Ytnknhjiofpjbbaa
open Go.RowKit

/-- The bits of a list of places. -/
def maskL (xs : List Int) : Nat := xs.foldl (fun s x => s ||| 2 ^ x.toNat) 0

theorem maskL_snoc (xs : List Int) (x : Int) : maskL (xs ++ [x]) = maskL xs ||| 2 ^ x.toNat := by simp [maskL, List.foldl_append]

theorem maskL_take (xs : List Int) (k : Nat) (x : Int) (h : xs[k]? = some x) : maskL (xs.take (k + 1)) = maskL (xs.take k) ||| 2 ^ x.toNat := by
  rw [List.take_add_one, h]; exact maskL_snoc _ _

/-- Induction from the list's end. -/
theorem snoc_ind {P : List Int → Prop} (h0 : P []) (h1 : ∀ xs x, P xs → P (xs ++ [x])) (xs : List Int) : P xs := by
  have : ∀ ys : List Int, P ys.reverse := by
    intro ys
    induction ys with
    | nil => exact h0
    | cons y r ih => rw [List.reverse_cons]; exact h1 _ _ ih
  have := this xs.reverse
  rwa [List.reverse_reverse] at this

theorem maskL_lt (xs : List Int) (h : ∀ x ∈ xs, x < 16) : maskL xs < 2 ^ 16 := by
  induction xs using snoc_ind with
  | h0 => simp [maskL]
  | h1 xs x ih =>
    rw [maskL_snoc]
    refine Nat.or_lt_two_pow (ih fun y hy => h y (by simp [hy])) ?_
    have := h x (by simp)
    exact Nat.pow_lt_pow_right (by decide) (by omega)

theorem maskL_bit (xs : List Int) (i : Nat) (h : ∀ x ∈ xs, 0 ≤ x) : (maskL xs).testBit i = decide ((i : Int) ∈ xs) := by
  induction xs using snoc_ind with
  | h0 => simp [maskL]
  | h1 xs x ih =>
    rw [maskL_snoc, Nat.testBit_or, ih fun y hy => h y (by simp [hy]), Nat.testBit_two_pow]
    have hx := h x (by simp)
    have : decide (x.toNat = i) = decide ((i : Int) = x) := by
      congr 1; apply propext; constructor <;> intro e <;> omega
    rw [this]
    simp [List.mem_append]

theorem riseB_mem {xs : List Int} {lo hi : Int} (h : riseB xs lo hi = true) : ∀ x ∈ xs, lo ≤ x ∧ x ≤ hi := by
  induction xs generalizing lo with
  | nil => intro x hx; simp at hx
  | cons y r ih =>
    simp [riseB] at h
    intro x hx
    rcases List.mem_cons.mp hx with rfl | hx
    · exact h.1
    · have := ih h.2 x hx; omega

theorem wraps_u16 (n : Int) (h₀ : 0 ≤ n) (h₁ : n < 2 ^ 16) : IntKind.u16.wrap n = n := by
  simp [IntKind.wrap, IntKind.bits, IntKind.signed]; omega

theorem or_u16 (a b : Nat) (ha : a < 2 ^ 16) (hb : b < 2 ^ 16) : bits .or .u16 (a : Int) (b : Int) = ((a ||| b : Nat) : Int) := (bits_nat .u16 16 (by decide) wraps_u16 a b ha hb).2
theorem and_u16 (a b : Nat) (ha : a < 2 ^ 16) (hb : b < 2 ^ 16) : bits .and .u16 (a : Int) (b : Int) = ((a &&& b : Nat) : Int) := (bits_nat .u16 16 (by decide) wraps_u16 a b ha hb).1

/-- What placesOf answers. -/
def setOf (p : Int) (xs : List Int) : Nat := if riseB xs 0 (p - 1) then maskL xs else 0

theorem ret_set {s t : Nat} {a b : Bool} (h : s = t) (hb : a = b) : Ending.returned (.tuple #[.int .u16 (s : Int), .bool a]) = .returned (.tuple #[.int .u16 (t : Int), .bool b]) := by rw [h, hb]

set_option maxHeartbeats 1000000 in
theorem placesOf_any (p : Int) (a : Option Addr) (n ca : Nat) (xs : List Int) (w : World) (ha : Row w a n xs) (hn : n ≤ 1048576) (hp : inB p 1 16 = true) :
    Calls Try.prog 86 #[.int .i64 p, .slice a n ca] w fun e w' => e = .returned (.tuple #[.int .u16 (setOf p xs : Int), .bool (riseB xs 0 (p - 1))]) ∧ w' = w := by
  have hp1 : 1 ≤ p ∧ p ≤ 16 := by simpa [inB] using hp
  obtain ⟨hp2, hp3⟩ := hp1
  go_enter Try.func86, Try.ntmps86
  go_wp2_with fail
  go_loop [6, 7, 12] (fun s l i => ∃ k : Nat, k ≤ n ∧ i = .int .i64 k ∧ s = .int .u16 (maskL (xs.take k) : Int) ∧ l = .int .i64 (nextLo xs k 0) ∧ Hid (riseB (xs.take k) 0 (p - 1) = true)) (fun _ _ i => n - (intOf i).toNat)
  case atStart => exact ⟨0, Nat.zero_le _, rfl, rfl, rfl, rfl⟩
  case round =>
    obtain ⟨k, hk, rfl, rfl, rfl, hu⟩ := hrel
    by_cases hlt : k < n
    · obtain ⟨b1, o1, x, rfl, hl1, hc1, H1⟩ := ha.at hlt
      have HS := hide (riseB_step hu.out H1.out)
      have hge := nextLo_ge hu.out (show k ≤ xs.length by have := ha.1; omega)
      by_cases h1 : x < nextLo xs k 0
      · have HN : Hid (riseB xs 0 (p - 1) = false) := by
          refine riseB_no (k := k + 1) ?_
          rw [HS.out]; simp; intro h2; omega
        have HE : Hid ((0 : Nat) = setOf p xs) := by show 0 = setOf p xs; unfold setOf; rw [HN.out]; rfl
        clear HS ha H1 hu
        generalize nextLo xs k 0 = nl at *
        go_wp2_with fail
        go_ret2
        exact ⟨ret_set HE.out HN.out.symm, rfl⟩
      by_cases h2 : p ≤ x
      · have HN : Hid (riseB xs 0 (p - 1) = false) := by
          refine riseB_no (k := k + 1) ?_
          rw [HS.out]; simp; intro h2; omega
        have HE : Hid ((0 : Nat) = setOf p xs) := by show 0 = setOf p xs; unfold setOf; rw [HN.out]; rfl
        clear HS ha H1 hu
        generalize nextLo xs k 0 = nl at *
        go_wp2_with fail
        go_ret2
        exact ⟨ret_set HE.out HN.out.symm, rfl⟩
      have h3 : 0 ≤ x := by omega
      have h4 : x < 16 := by omega
      have HU : Hid (riseB (xs.take (k + 1)) 0 (p - 1) = true) := by
        show riseB (xs.take (k + 1)) 0 (p - 1) = true
        rw [HS.out]; simp; omega
      have HM : Hid (bits .or .u16 (maskL (xs.take k) : Int) (IntKind.u16.wrap (2 ^ x.toNat)) = (maskL (xs.take (k + 1)) : Int)) := by
        show _ = _
        have hx2 : 2 ^ x.toNat < 2 ^ 16 := Nat.pow_lt_pow_right (by decide) (by omega)
        have hx3 : ((2 : Int) ^ x.toNat) = ((2 ^ x.toNat : Nat) : Int) := by simp
        rw [hx3, wraps_u16 _ (Int.natCast_nonneg _) (by exact_mod_cast hx2), or_u16 _ _ (maskL_lt _ fun y hy => by have := riseB_mem hu.out y hy; omega) hx2, maskL_take xs k x H1.out]
      have HX : Hid (x + 1 = nextLo xs (k + 1) 0) := by
        show _ = _
        simp only [nextLo, Nat.add_one_ne_zero, if_false, Nat.add_sub_cancel]
        rw [List.getD_eq_getElem?_getD, H1.out]; rfl
      clear HS ha H1 hu
      generalize nextLo xs k 0 = nl at *
      generalize maskL (xs.take k) = mm at *
      go_wp2_with fail
      go_round
      case rel => exact ⟨k + 1, by omega, by go_num, by rw [HM.out], by rw [HX.out], HU⟩
      case measure => simp [intOf]; omega
    · have hk' : k = n := by omega
      subst hk'
      have HA := hide (riseB_done hu.out ha.1)
      have HE : Hid (maskL (xs.take k) = setOf p xs) := by
        show maskL (xs.take k) = setOf p xs
        unfold setOf; rw [HA.out, List.take_of_length_le (by have := ha.1; omega)]; rfl
      generalize nextLo xs k 0 = nl at *
      generalize maskL (xs.take k) = mm at *
      go_wp2_with fail
      go_ret2
      exact ⟨ret_set HE.out HA.out.symm, rfl⟩

theorem maskL_zero {xs : List Int} (h : ∀ x ∈ xs, 0 ≤ x) : maskL xs = 0 ↔ xs = [] := by
  constructor
  · intro e
    cases xs with
    | nil => rfl
    | cons x r =>
      have hb := maskL_bit (x :: r) x.toNat h
      rw [e, Nat.zero_testBit] at hb
      have hx := h x (by simp)
      simp at hb; omega
  · intro e; rw [e]; rfl

/-- Whether the three lists are those of a transition. -/
def tri3Ok (p : Int) (x0 x1 x2 : List Int) : Bool := !x0.isEmpty && riseB x0 0 (p - 1) && riseB x1 0 (p - 1) && riseB x2 0 (p - 1)

def bit3 (b : Bool) (xs : List Int) : Int := if b then (maskL xs : Int) else 0

/-- What stepOf answers. -/
def StepEnd (p : Int) (x0 x1 x2 : List Int) (w : World) (e : Ending) (w' : World) : Prop :=
  e = .returned (.tuple #[.agg #[.int .u16 (bit3 (tri3Ok p x0 x1 x2) x0), .int .u16 (bit3 (tri3Ok p x0 x1 x2) x1), .int .u16 (bit3 (tri3Ok p x0 x1 x2) x2)], .bool (tri3Ok p x0 x1 x2)]) ∧ Below w.heap.size w w'

theorem stepEnd_no {p : Int} {x0 x1 x2 : List Int} {w w' : World} (h : tri3Ok p x0 x1 x2 = false) (hb : Below w.heap.size w w') : StepEnd p x0 x1 x2 w (.returned (.tuple #[.agg #[.int .u16 0, .int .u16 0, .int .u16 0], .bool false])) w' := by
  refine ⟨?_, hb⟩; rw [h]; rfl

theorem stepEnd_yes {p : Int} {x0 x1 x2 : List Int} {w w' : World} {s0 s1 s2 : Nat} (h : tri3Ok p x0 x1 x2 = true) (h0 : maskL x0 = s0) (h1 : maskL x1 = s1) (h2 : maskL x2 = s2) (hb : Below w.heap.size w w') : StepEnd p x0 x1 x2 w (.returned (.tuple #[.agg #[.int .u16 (s0 : Int), .int .u16 (s1 : Int), .int .u16 (s2 : Int)], .bool true])) w' := by
  refine ⟨?_, hb⟩; rw [h, ← h0, ← h1, ← h2]; rfl

set_option maxHeartbeats 1000000 in
theorem stepOf_any (p : Int) (a0 a1 a2 : Option Addr) (n0 n1 n2 c0 c1 c2 : Nat) (x0 x1 x2 : List Int) (w : World) (r0 : Row w a0 n0 x0) (r1 : Row w a1 n1 x1) (r2 : Row w a2 n2 x2) (h0 : n0 ≤ 1048576) (h1 : n1 ≤ 1048576) (h2 : n2 ≤ 1048576) (hp : inB p 1 16 = true) :
    Calls Try.prog 85 #[.int .i64 p, .agg #[.slice a0 n0 c0, .slice a1 n1 c1, .slice a2 n2 c2]] w fun e w' => StepEnd p x0 x1 x2 w e w' := by
  have R0 := hide r0
  have R1 := hide r1
  have R2 := hide r2
  clear r0 r1 r2
  go_enter Try.func85, Try.ntmps85
  go_wp2_with fail
  refine (placesOf_any _ _ _ _ x0 _ ((R0.out.alloc _).alloc _) h0 hp).mono ?_
  rintro e w' ⟨rfl, rfl⟩
  obtain ⟨b0, hb0⟩ : ∃ b, Hid (riseB x0 0 (p - 1) = b) := ⟨_, rfl⟩
  obtain ⟨s0, hs0⟩ : ∃ b, Hid (setOf p x0 = b) := ⟨_, rfl⟩
  rw [hb0.out, hs0.out]
  go_wp2_with fail
  refine (placesOf_any _ _ _ _ x1 _ ((R1.out.alloc _).alloc _) h1 hp).mono ?_
  rintro e w' ⟨rfl, rfl⟩
  obtain ⟨b1, hb1⟩ : ∃ b, Hid (riseB x1 0 (p - 1) = b) := ⟨_, rfl⟩
  obtain ⟨s1, hs1⟩ : ∃ b, Hid (setOf p x1 = b) := ⟨_, rfl⟩
  rw [hb1.out, hs1.out]
  go_wp2_with fail
  refine (placesOf_any _ _ _ _ x2 _ ((R2.out.alloc _).alloc _) h2 hp).mono ?_
  rintro e w' ⟨rfl, rfl⟩
  obtain ⟨b2, hb2⟩ : ∃ b, Hid (riseB x2 0 (p - 1) = b) := ⟨_, rfl⟩
  obtain ⟨s2, hs2⟩ : ∃ b, Hid (setOf p x2 = b) := ⟨_, rfl⟩
  rw [hb2.out, hs2.out]
  cases b0
  · have HN := hide (show tri3Ok p x0 x1 x2 = false by unfold tri3Ok; rw [hb0.out]; simp)
    go_wp2_with fail
    refine bodyPost_ret (v := .tuple #[.agg #[.int .u16 0, .int .u16 0, .int .u16 0], .bool false]) (by simp [results, Try.results85, go_sem]) rfl ?_
    exact stepEnd_no HN.out (below_two _ _ _)
  cases b1
  · have HN := hide (show tri3Ok p x0 x1 x2 = false by unfold tri3Ok; rw [hb1.out]; simp)
    go_wp2_with fail
    refine bodyPost_ret (v := .tuple #[.agg #[.int .u16 0, .int .u16 0, .int .u16 0], .bool false]) (by simp [results, Try.results85, go_sem]) rfl ?_
    exact stepEnd_no HN.out (below_two _ _ _)
  cases b2
  · have HN := hide (show tri3Ok p x0 x1 x2 = false by unfold tri3Ok; rw [hb2.out]; simp)
    go_wp2_with fail
    refine bodyPost_ret (v := .tuple #[.agg #[.int .u16 0, .int .u16 0, .int .u16 0], .bool false]) (by simp [results, Try.results85, go_sem]) rfl ?_
    exact stepEnd_no HN.out (below_two _ _ _)
  have HS0 : Hid (maskL x0 = s0) := by show _ = _; rw [← hs0.out]; unfold setOf; rw [hb0.out]; rfl
  have HS1 : Hid (maskL x1 = s1) := by show _ = _; rw [← hs1.out]; unfold setOf; rw [hb1.out]; rfl
  have HS2 : Hid (maskL x2 = s2) := by show _ = _; rw [← hs2.out]; unfold setOf; rw [hb2.out]; rfl
  have hz := maskL_zero (fun x hx => (riseB_mem hb0.out x hx).1)
  rw [HS0.out] at hz
  by_cases hs : s0 = 0
  · have HN := hide (show tri3Ok p x0 x1 x2 = false by unfold tri3Ok; rw [hz.mp hs]; rfl)
    clear hz
    subst hs
    go_wp2_with fail
    refine bodyPost_ret (v := .tuple #[.agg #[.int .u16 0, .int .u16 0, .int .u16 0], .bool false]) (by simp [results, Try.results85, go_sem]) rfl ?_
    exact stepEnd_no HN.out (below_two _ _ _)
  have HY := hide (show tri3Ok p x0 x1 x2 = true by
    unfold tri3Ok; rw [hb0.out, hb1.out, hb2.out]
    have : x0 ≠ [] := fun e => hs (hz.mpr e)
    cases x0 <;> simp_all)
  have hs' : (s0 : Int) ≠ 0 := by omega
  clear hz hs
  go_wp2_with fail
  refine bodyPost_ret (v := .tuple #[.agg #[.int .u16 (s0 : Int), .int .u16 (s1 : Int), .int .u16 (s2 : Int)], .bool true]) (by simp [results, Try.results85, go_sem]) rfl ?_
  exact stepEnd_yes HY.out HS0.out HS1.out HS2.out (below_two _ _ _)
end Go.Proofs.Ytnknhjiofpjbbaa
