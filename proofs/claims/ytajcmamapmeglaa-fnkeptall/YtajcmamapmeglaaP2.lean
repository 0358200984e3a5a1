/- Contracts that the proof stands on, one behind the other. -/
import Derived.Test.YtajcmamapmeglaaP1
import Derived.WalkKit
import Derived.ProofKit
import Derived.OpenShut
import Derived.ChangeOld
import Derived.Below
/- Sets of places as bits: placesOf, stepOf and netSteps of the program, for every net in memory. -/
namespace Go.Proofs.Ytajcmamapmeglaa
open Go.RowKit

/-- The bits of a list of places. -/
def maskL (xs : List Int) : Nat := xs.foldl (fun s x => s ||| 2 ^ x.toNat) 0

theorem maskL_snoc (xs : List Int) (x : Int) : maskL (xs ++ [x]) = maskL xs ||| 2 ^ x.toNat := by simp [maskL, List.foldl_append]

theorem maskL_take (xs : List Int) (k : Nat) (x : Int) (h : xs[k]? = some x) : maskL (xs.take (k + 1)) = maskL (xs.take k) ||| 2 ^ x.toNat := by
  rw [List.take_add_one, h]; exact maskL_snoc _ _

/-- Induction from the list's end. -/
theorem snoc_ind {P : List Int → Prop} (h0 : P []) (h1 : ∀ xs x, P xs → P (xs ++ [x])) (xs : List Int) : P xs := by
  have : ∀ ys : List Int, P ys.reverse := by
    intro ys
    induction ys with
    | nil => exact h0
    | cons y r ih => rw [List.reverse_cons]; exact h1 _ _ ih
  have := this xs.reverse
  rwa [List.reverse_reverse] at this

theorem maskL_lt (xs : List Int) (h : ∀ x ∈ xs, x < 16) : maskL xs < 2 ^ 16 := by
  induction xs using snoc_ind with
  | h0 => simp [maskL]
  | h1 xs x ih =>
    rw [maskL_snoc]
    refine Nat.or_lt_two_pow (ih fun y hy => h y (by simp [hy])) ?_
    have := h x (by simp)
    exact Nat.pow_lt_pow_right (by decide) (by omega)

theorem maskL_bit (xs : List Int) (i : Nat) (h : ∀ x ∈ xs, 0 ≤ x) : (maskL xs).testBit i = decide ((i : Int) ∈ xs) := by
  induction xs using snoc_ind with
  | h0 => simp [maskL]
  | h1 xs x ih =>
    rw [maskL_snoc, Nat.testBit_or, ih fun y hy => h y (by simp [hy]), Nat.testBit_two_pow]
    have hx := h x (by simp)
    have : decide (x.toNat = i) = decide ((i : Int) = x) := by
      congr 1; apply propext; constructor <;> intro e <;> omega
    rw [this]
    simp [List.mem_append]

theorem riseB_mem {xs : List Int} {lo hi : Int} (h : riseB xs lo hi = true) : ∀ x ∈ xs, lo ≤ x ∧ x ≤ hi := by
  induction xs generalizing lo with
  | nil => intro x hx; simp at hx
  | cons y r ih =>
    simp [riseB] at h
    intro x hx
    rcases List.mem_cons.mp hx with rfl | hx
    · exact h.1
    · have := ih h.2 x hx; omega

theorem wraps_u16 (n : Int) (h₀ : 0 ≤ n) (h₁ : n < 2 ^ 16) : IntKind.u16.wrap n = n := by
  simp [IntKind.wrap, IntKind.bits, IntKind.signed]; omega

theorem or_u16 (a b : Nat) (ha : a < 2 ^ 16) (hb : b < 2 ^ 16) : bits .or .u16 (a : Int) (b : Int) = ((a ||| b : Nat) : Int) := (bits_nat .u16 16 (by decide) wraps_u16 a b ha hb).2
theorem and_u16 (a b : Nat) (ha : a < 2 ^ 16) (hb : b < 2 ^ 16) : bits .and .u16 (a : Int) (b : Int) = ((a &&& b : Nat) : Int) := (bits_nat .u16 16 (by decide) wraps_u16 a b ha hb).1

/-- What placesOf answers. -/
def setOf (p : Int) (xs : List Int) : Nat := if riseB xs 0 (p - 1) then maskL xs else 0

theorem ret_set {s t : Nat} {a b : Bool} (h : s = t) (hb : a = b) : Ending.returned (.tuple #[.int .u16 (s : Int), .bool a]) = .returned (.tuple #[.int .u16 (t : Int), .bool b]) := by rw [h, hb]

set_option maxHeartbeats 1000000 in
theorem placesOf_any (p : Int) (a : Option Addr) (n ca : Nat) (xs : List Int) (w : World) (ha : Row w a n xs) (hn : n ≤ 1048576) (hp : inB p 1 16 = true) :
    Calls Try.prog 133 #[.int .i64 p, .slice a n ca] w fun e w' => e = .returned (.tuple #[.int .u16 (setOf p xs : Int), .bool (riseB xs 0 (p - 1))]) ∧ w' = w := by
  have hp1 : 1 ≤ p ∧ p ≤ 16 := by simpa [inB] using hp
  obtain ⟨hp2, hp3⟩ := hp1
  go_enter Try.func133, Try.ntmps133
  go_wp2_with fail
  go_loop [6, 7, 12] (fun s l i => ∃ k : Nat, k ≤ n ∧ i = .int .i64 k ∧ s = .int .u16 (maskL (xs.take k) : Int) ∧ l = .int .i64 (nextLo xs k 0) ∧ Hid (riseB (xs.take k) 0 (p - 1) = true)) (fun _ _ i => n - (intOf i).toNat)
  case atStart => exact ⟨0, Nat.zero_le _, rfl, rfl, rfl, rfl⟩
  case round =>
    obtain ⟨k, hk, rfl, rfl, rfl, hu⟩ := hrel
    by_cases hlt : k < n
    · obtain ⟨b1, o1, x, rfl, hl1, hc1, H1⟩ := ha.at hlt
      have HS := hide (riseB_step hu.out H1.out)
      have hge := nextLo_ge hu.out (show k ≤ xs.length by have := ha.1; omega)
      by_cases h1 : x < nextLo xs k 0
      · have HN : Hid (riseB xs 0 (p - 1) = false) := by
          refine riseB_no (k := k + 1) ?_
          rw [HS.out]; simp; intro h2; omega
        have HE : Hid ((0 : Nat) = setOf p xs) := by show 0 = setOf p xs; unfold setOf; rw [HN.out]; rfl
        clear HS ha H1 hu
        generalize nextLo xs k 0 = nl at *
        go_wp2_with fail
        go_ret2
        exact ⟨ret_set HE.out HN.out.symm, rfl⟩
      by_cases h2 : p ≤ x
      · have HN : Hid (riseB xs 0 (p - 1) = false) := by
          refine riseB_no (k := k + 1) ?_
          rw [HS.out]; simp; intro h2; omega
        have HE : Hid ((0 : Nat) = setOf p xs) := by show 0 = setOf p xs; unfold setOf; rw [HN.out]; rfl
        clear HS ha H1 hu
        generalize nextLo xs k 0 = nl at *
        go_wp2_with fail
        go_ret2
        exact ⟨ret_set HE.out HN.out.symm, rfl⟩
      have h3 : 0 ≤ x := by omega
      have h4 : x < 16 := by omega
      have HU : Hid (riseB (xs.take (k + 1)) 0 (p - 1) = true) := by
        show riseB (xs.take (k + 1)) 0 (p - 1) = true
        rw [HS.out]; simp; omega
      have HM : Hid (bits .or .u16 (maskL (xs.take k) : Int) (IntKind.u16.wrap (2 ^ x.toNat)) = (maskL (xs.take (k + 1)) : Int)) := by
        show _ = _
        have hx2 : 2 ^ x.toNat < 2 ^ 16 := Nat.pow_lt_pow_right (by decide) (by omega)
        have hx3 : ((2 : Int) ^ x.toNat) = ((2 ^ x.toNat : Nat) : Int) := by simp
        rw [hx3, wraps_u16 _ (Int.natCast_nonneg _) (by exact_mod_cast hx2), or_u16 _ _ (maskL_lt _ fun y hy => by have := riseB_mem hu.out y hy; omega) hx2, maskL_take xs k x H1.out]
      have HX : Hid (x + 1 = nextLo xs (k + 1) 0) := by
        show _ = _
        simp only [nextLo, Nat.add_one_ne_zero, if_false, Nat.add_sub_cancel]
        rw [List.getD_eq_getElem?_getD, H1.out]; rfl
      clear HS ha H1 hu
      generalize nextLo xs k 0 = nl at *
      generalize maskL (xs.take k) = mm at *
      go_wp2_with fail
      go_round
      case rel => exact ⟨k + 1, by omega, by go_num, by rw [HM.out], by rw [HX.out], HU⟩
      case measure => simp [intOf]; omega
    · have hk' : k = n := by omega
      subst hk'
      have HA := hide (riseB_done hu.out ha.1)
      have HE : Hid (maskL (xs.take k) = setOf p xs) := by
        show maskL (xs.take k) = setOf p xs
        unfold setOf; rw [HA.out, List.take_of_length_le (by have := ha.1; omega)]; rfl
      generalize nextLo xs k 0 = nl at *
      generalize maskL (xs.take k) = mm at *
      go_wp2_with fail
      go_ret2
      exact ⟨ret_set HE.out HA.out.symm, rfl⟩

theorem maskL_zero {xs : List Int} (h : ∀ x ∈ xs, 0 ≤ x) : maskL xs = 0 ↔ xs = [] := by
  constructor
  · intro e
    cases xs with
    | nil => rfl
    | cons x r =>
      have hb := maskL_bit (x :: r) x.toNat h
      rw [e, Nat.zero_testBit] at hb
      have hx := h x (by simp)
      simp at hb; omega
  · intro e; rw [e]; rfl

/-- Whether the three lists are those of a transition. -/
def tri3Ok (p : Int) (x0 x1 x2 : List Int) : Bool := !x0.isEmpty && riseB x0 0 (p - 1) && riseB x1 0 (p - 1) && riseB x2 0 (p - 1)

def bit3 (b : Bool) (xs : List Int) : Int := if b then (maskL xs : Int) else 0

/-- What stepOf answers. -/
def StepEnd (p : Int) (x0 x1 x2 : List Int) (w : World) (e : Ending) (w' : World) : Prop :=
  e = .returned (.tuple #[.agg #[.int .u16 (bit3 (tri3Ok p x0 x1 x2) x0), .int .u16 (bit3 (tri3Ok p x0 x1 x2) x1), .int .u16 (bit3 (tri3Ok p x0 x1 x2) x2)], .bool (tri3Ok p x0 x1 x2)]) ∧ Below w.heap.size w w'

theorem stepEnd_no {p : Int} {x0 x1 x2 : List Int} {w w' : World} (h : tri3Ok p x0 x1 x2 = false) (hb : Below w.heap.size w w') : StepEnd p x0 x1 x2 w (.returned (.tuple #[.agg #[.int .u16 0, .int .u16 0, .int .u16 0], .bool false])) w' := by
  refine ⟨?_, hb⟩; rw [h]; rfl

theorem stepEnd_yes {p : Int} {x0 x1 x2 : List Int} {w w' : World} {s0 s1 s2 : Nat} (h : tri3Ok p x0 x1 x2 = true) (h0 : maskL x0 = s0) (h1 : maskL x1 = s1) (h2 : maskL x2 = s2) (hb : Below w.heap.size w w') : StepEnd p x0 x1 x2 w (.returned (.tuple #[.agg #[.int .u16 (s0 : Int), .int .u16 (s1 : Int), .int .u16 (s2 : Int)], .bool true])) w' := by
  refine ⟨?_, hb⟩; rw [h, ← h0, ← h1, ← h2]; rfl

set_option maxHeartbeats 1000000 in
theorem stepOf_any (p : Int) (a0 a1 a2 : Option Addr) (n0 n1 n2 c0 c1 c2 : Nat) (x0 x1 x2 : List Int) (w : World) (r0 : Row w a0 n0 x0) (r1 : Row w a1 n1 x1) (r2 : Row w a2 n2 x2) (h0 : n0 ≤ 1048576) (h1 : n1 ≤ 1048576) (h2 : n2 ≤ 1048576) (hp : inB p 1 16 = true) :
    Calls Try.prog 148 #[.int .i64 p, .agg #[.slice a0 n0 c0, .slice a1 n1 c1, .slice a2 n2 c2]] w fun e w' => StepEnd p x0 x1 x2 w e w' := by
  have R0 := hide r0
  have R1 := hide r1
  have R2 := hide r2
  clear r0 r1 r2
  go_enter Try.func148, Try.ntmps148
  go_wp2_with fail
  refine (placesOf_any _ _ _ _ x0 _ ((R0.out.alloc _).alloc _) h0 hp).mono ?_
  rintro e w' ⟨rfl, rfl⟩
  obtain ⟨b0, hb0⟩ : ∃ b, Hid (riseB x0 0 (p - 1) = b) := ⟨_, rfl⟩
  obtain ⟨s0, hs0⟩ : ∃ b, Hid (setOf p x0 = b) := ⟨_, rfl⟩
  rw [hb0.out, hs0.out]
  go_wp2_with fail
  refine (placesOf_any _ _ _ _ x1 _ ((R1.out.alloc _).alloc _) h1 hp).mono ?_
  rintro e w' ⟨rfl, rfl⟩
  obtain ⟨b1, hb1⟩ : ∃ b, Hid (riseB x1 0 (p - 1) = b) := ⟨_, rfl⟩
  obtain ⟨s1, hs1⟩ : ∃ b, Hid (setOf p x1 = b) := ⟨_, rfl⟩
  rw [hb1.out, hs1.out]
  go_wp2_with fail
  refine (placesOf_any _ _ _ _ x2 _ ((R2.out.alloc _).alloc _) h2 hp).mono ?_
  rintro e w' ⟨rfl, rfl⟩
  obtain ⟨b2, hb2⟩ : ∃ b, Hid (riseB x2 0 (p - 1) = b) := ⟨_, rfl⟩
  obtain ⟨s2, hs2⟩ : ∃ b, Hid (setOf p x2 = b) := ⟨_, rfl⟩
  rw [hb2.out, hs2.out]
  cases b0
  · have HN := hide (show tri3Ok p x0 x1 x2 = false by unfold tri3Ok; rw [hb0.out]; simp)
    go_wp2_with fail
    refine bodyPost_ret (v := .tuple #[.agg #[.int .u16 0, .int .u16 0, .int .u16 0], .bool false]) (by simp [results, Try.results148, go_sem]) rfl ?_
    exact stepEnd_no HN.out (below_two _ _ _)
  cases b1
  · have HN := hide (show tri3Ok p x0 x1 x2 = false by unfold tri3Ok; rw [hb1.out]; simp)
    go_wp2_with fail
    refine bodyPost_ret (v := .tuple #[.agg #[.int .u16 0, .int .u16 0, .int .u16 0], .bool false]) (by simp [results, Try.results148, go_sem]) rfl ?_
    exact stepEnd_no HN.out (below_two _ _ _)
  cases b2
  · have HN := hide (show tri3Ok p x0 x1 x2 = false by unfold tri3Ok; rw [hb2.out]; simp)
    go_wp2_with fail
    refine bodyPost_ret (v := .tuple #[.agg #[.int .u16 0, .int .u16 0, .int .u16 0], .bool false]) (by simp [results, Try.results148, go_sem]) rfl ?_
    exact stepEnd_no HN.out (below_two _ _ _)
  have HS0 : Hid (maskL x0 = s0) := by show _ = _; rw [← hs0.out]; unfold setOf; rw [hb0.out]; rfl
  have HS1 : Hid (maskL x1 = s1) := by show _ = _; rw [← hs1.out]; unfold setOf; rw [hb1.out]; rfl
  have HS2 : Hid (maskL x2 = s2) := by show _ = _; rw [← hs2.out]; unfold setOf; rw [hb2.out]; rfl
  have hz := maskL_zero (fun x hx => (riseB_mem hb0.out x hx).1)
  rw [HS0.out] at hz
  by_cases hs : s0 = 0
  · have HN := hide (show tri3Ok p x0 x1 x2 = false by unfold tri3Ok; rw [hz.mp hs]; rfl)
    clear hz
    subst hs
    go_wp2_with fail
    refine bodyPost_ret (v := .tuple #[.agg #[.int .u16 0, .int .u16 0, .int .u16 0], .bool false]) (by simp [results, Try.results148, go_sem]) rfl ?_
    exact stepEnd_no HN.out (below_two _ _ _)
  have HY := hide (show tri3Ok p x0 x1 x2 = true by
    unfold tri3Ok; rw [hb0.out, hb1.out, hb2.out]
    have : x0 ≠ [] := fun e => hs (hz.mpr e)
    cases x0 <;> simp_all)
  have hs' : (s0 : Int) ≠ 0 := by omega
  clear hz hs
  go_wp2_with fail
  refine bodyPost_ret (v := .tuple #[.agg #[.int .u16 (s0 : Int), .int .u16 (s1 : Int), .int .u16 (s2 : Int)], .bool true]) (by simp [results, Try.results148, go_sem]) rfl ?_
  exact stepEnd_yes HY.out HS0.out HS1.out HS2.out (below_two _ _ _)
end Go.Proofs.Ytajcmamapmeglaa


/- What netSteps and the program's GoodNet answer, for every net in memory. -/
namespace Go.Proofs.Ytajcmamapmeglaa
open Go.RowKit

/-- The first k of n cells of the block B are the bits of the first k lists. -/
def PartS (w : World) (B n k : Nat) (L : List (List Int)) : Prop :=
  ∃ C : Array Value, w.heap[B]? = some (.cells C 65 (0, 0)) ∧ C.size = n ∧ ∀ j, j < k → C[j]? = some (.int .u16 (maskL (L.getD j []) : Int))

theorem PartS.grow {w w' : World} {B n k : Nat} {L : List (List Int)} (h : PartS w B n k L) (hb : Below w.heap.size w w') : PartS w' B n k L := by
  obtain ⟨C, h1, h2, h3⟩ := h
  exact ⟨C, (hb.block B (Array.getElem?_eq_some_iff.mp h1).1).trans h1, h2, h3⟩

theorem PartS.set_other {w : World} {B n k g : Nat} {L : List (List Int)} (h : PartS w B n k L) (hg : B ≠ g) (o : Nat) (v : Value) : PartS (w.setCell ⟨g, o, none⟩ v) B n k L := by
  obtain ⟨C, h1, h2, h3⟩ := h
  exact ⟨C, (Below.heap_setCell _ _ _ _ hg).trans h1, h2, h3⟩

theorem PartS.step {w : World} {B n k : Nat} {L : List (List Int)} (h : PartS w B (3 * n) (3 * k) L) (hk : k < n) {s0 s1 s2 : Int}
    (e0 : (maskL (L.getD (3 * k) []) : Int) = s0) (e1 : (maskL (L.getD (3 * k + 1) []) : Int) = s1) (e2 : (maskL (L.getD (3 * k + 2) []) : Int) = s2) :
    PartS (w.setCells B (k * 3) [.int .u16 s0, .int .u16 s1, .int .u16 s2]) B (3 * n) (3 * (k + 1)) L := by
  obtain ⟨C, h1, h2, h3⟩ := h
  refine ⟨_, heap_set3_same h1 _ _ _, by simp [h2], fun j hj => ?_⟩
  by_cases hj3 : j < 3 * k
  · rw [Array.getElem?_setIfInBounds_ne (by omega), Array.getElem?_setIfInBounds_ne (by omega), Array.getElem?_setIfInBounds_ne (by omega)]; exact h3 j hj3
  · obtain rfl | rfl | rfl : j = 3 * k ∨ j = 3 * k + 1 ∨ j = 3 * k + 2 := by omega
    · rw [Array.getElem?_setIfInBounds_ne (by omega), Array.getElem?_setIfInBounds_ne (by omega), Array.getElem?_setIfInBounds, if_pos (by omega), if_pos (by omega), e0]
    · rw [Array.getElem?_setIfInBounds_ne (by omega), Array.getElem?_setIfInBounds, if_pos (by omega), if_pos (by simp; omega), e1]
    · rw [Array.getElem?_setIfInBounds, if_pos (by omega), if_pos (by simp; omega), e2]

theorem Try.info65 : (Try.prog.info? 65).map (fun i => (i.zero, i.size, i.bytes)) = some (some (.agg #[.int .u16 0, .int .u16 0, .int .u16 0]), 3, 6) := by kernel_rfl
theorem Try.size65 : (Try.prog.info? 65).map (·.size) = some 3 := by kernel_rfl

/-- How netSteps ends. -/
def NetEnd (g : Bool) (p : Int) (n : Nat) (L : List (List Int)) (w : World) (e : Ending) (w' : World) : Prop :=
  ∃ p' a m c, e = .returned (.tuple #[.agg #[.int .i64 p', .slice a m c], .bool g]) ∧ Hid (g = true → p' = p ∧ m = n ∧ c = n ∧ ∃ B, a = some ⟨B, 0, none⟩ ∧ w.heap.size ≤ B ∧ PartS w' B (3 * n) (3 * n) L) ∧ Below w.heap.size w w'

/-- What the loop of netSteps keeps in mind. -/
structure NsInv (w wr : World) (p : Int) (a : Option Addr) (n c k : Nat) (L : List (List Int)) : Prop where
  par : wr.heap[w.heap.size]? = some (.cells #[.int .i64 p, .slice a n c] 26 (0, 0))
  res : wr.heap[w.heap.size + 1]? = some (.cells #[.int .i64 0, .slice none 0 0] 59 (0, 0))
  part : PartS wr (w.heap.size + 1 + 1) (3 * n) (3 * k) L
  bel : Below w.heap.size w wr

theorem NsInv.grow {w wr v : World} {p : Int} {a : Option Addr} {n c k : Nat} {L : List (List Int)} (h : NsInv w wr p a n c k L) (hb : Below wr.heap.size wr v) : NsInv w v p a n c k L :=
  ⟨(hb.block _ (Array.getElem?_eq_some_iff.mp h.par).1).trans h.par, (hb.block _ (Array.getElem?_eq_some_iff.mp h.res).1).trans h.res, h.part.grow hb, h.bel.trans (hb.mono h.bel.size)⟩

theorem NsInv.step {w wr : World} {p : Int} {a : Option Addr} {n c k : Nat} {L : List (List Int)} (h : NsInv w wr p a n c k L) (hk : k < n) {s0 s1 s2 : Int}
    (e0 : (maskL (L.getD (3 * k) []) : Int) = s0) (e1 : (maskL (L.getD (3 * k + 1) []) : Int) = s1) (e2 : (maskL (L.getD (3 * k + 2) []) : Int) = s2) :
    NsInv w (wr.setCells (w.heap.size + 1 + 1) (k * 3) [.int .u16 s0, .int .u16 s1, .int .u16 s2]) p a n c (k + 1) L :=
  ⟨(heap_set3_other _ _ _ _ _ _ _ (by omega)).trans h.par, (heap_set3_other _ _ _ _ _ _ _ (by omega)).trans h.res, h.part.step hk e0 e1 e2, below_set3 h.bel (by omega) _ _ _ _⟩

theorem NsInv.size {w wr : World} {p : Int} {a : Option Addr} {n c k : Nat} {L : List (List Int)} (h : NsInv w wr p a n c k L) : w.heap.size + 1 + 1 < wr.heap.size := by
  obtain ⟨C, h1, _⟩ := h.part
  exact (Array.getElem?_eq_some_iff.mp h1).1

theorem netEnd_no {p : Int} {n : Nat} {L : List (List Int)} {w w' : World} (h : netOk p n L = false) (hb : Below w.heap.size w w') : NetEnd (netOk p n L) p n L w (.returned (.tuple #[.agg #[.int .i64 0, .slice none 0 0], .bool false])) w' :=
  ⟨_, _, _, _, by rw [h], by rw [h]; intro e; simp at e, hb⟩

theorem triOk_eq (p : Int) (L : List (List Int)) (i : Nat) : triOk p L i = tri3Ok p (L.getD (3 * i) []) (L.getD (3 * i + 1) []) (L.getD (3 * i + 2) []) := rfl

set_option maxHeartbeats 4000000 in
theorem netSteps_any (p : Int) (a : Option Addr) (n c : Nat) (L : List (List Int)) (w : World) (h : Lists w a (3 * n) L) (hs : sizeN n L ≤ 1048576) :
    Calls Try.prog 118 #[.agg #[.int .i64 p, .slice a n c]] w fun e w' => NetEnd (netOk p n L) p n L w e w' := by
  by_cases hp : inB p 1 16 = true
  · by_cases hn : n ≤ 24
    · have hmk := run_make_many (P := Try.prog) 57 65 _ 3 6 Try.underlying57 Try.info65 .i64 .i64 n (by omega) (by omega)
      simp only [Value.cells] at hmk
      have HL := hide h
      clear h
      go_enter Try.func118, Try.ntmps118
      go_wp2_with (go_at_call 132; refine (goodPlaces_any _ _).mono ?_; rintro e w' ⟨rfl, rfl⟩)
      clear hmk
      go_loopw [27] (fun i wr => ∃ k : Nat, k ≤ n ∧ i = .int .i64 k ∧ Hid ((List.range k).all (triOk p L) = true) ∧ Hid (NsInv w wr p a n c k L)) (fun i _ => n - (intOf i).toNat)
      case atStart =>
        refine ⟨0, Nat.zero_le _, rfl, rfl, ?_, ?_, ⟨madeCells #[.int .u16 0, .int .u16 0, .int .u16 0] (n * 3), ?_, ?_, fun j hj => absurd hj (by omega)⟩, ?_⟩
        · rw [heap_al_old _ _ _ (by simp; omega), heap_al_old _ _ _ (by simp)]; exact heap_alloc_new _ _
        · rw [heap_al_old _ _ _ (by simp)]
          have := heap_alloc_new (w.alloc (.cells #[.int .i64 p, .slice a n c] 26)) (.cells #[.int .i64 0, .slice none 0 0] 59)
          simpa using this
        · have := heap_alloc_new ((w.alloc (.cells #[.int .i64 p, .slice a n c] 26)).alloc (.cells #[.int .i64 0, .slice none 0 0] 59)) (.cells (madeCells #[.int .u16 0, .int .u16 0, .int .u16 0] (n * 3)) 65)
          simpa using this
        · rw [size_madeCells]; omega
        · exact ((below_al w _).alloc (by simp) _).alloc (by simp; omega) _
      case round =>
        obtain ⟨k, hk, rfl, hu, hin⟩ := hrel
        have hsz := hin.out.size
        have hpw : w.heap.size < wr.heap.size := by omega
        have hcp := cell_of_row wr w.heap.size 0 _ _ _ hin.out.par
        simp at hcp
        have r10 := cell_of_row wr (w.heap.size + 1) 0 _ _ _ hin.out.res
        have r11 := cell_of_row wr (w.heap.size + 1) 1 _ _ _ hin.out.res
        simp at r10 r11
        have f10 := frozen_of_row wr (w.heap.size + 1) 0 _ _ hin.out.res
        have f11 := frozen_of_row wr (w.heap.size + 1) 1 _ _ hin.out.res
        by_cases hlt : k < n
        · obtain ⟨b, off, a0, n0, c0, a1, n1, c1, a2, n2, c2, rfl, hb, hr, m0, m1, m2, r0, r1, r2⟩ := (HL.out.below hin.out.bel).tri hlt
          obtain ⟨hc0, hc1, hc2⟩ := rangeAt_cells3 hr
          have hl0 := len_le L (3 * k)
          have hl1 := len_le L (3 * k + 1)
          have hl2 := len_le L (3 * k + 2)
          have hs' : n + sizeL L ≤ 1048576 := hs
          obtain ⟨x0, hx0⟩ : ∃ x, Hid (L.getD (3 * k) [] = x) := ⟨_, rfl⟩
          obtain ⟨x1, hx1⟩ : ∃ x, Hid (L.getD (3 * k + 1) [] = x) := ⟨_, rfl⟩
          obtain ⟨x2, hx2⟩ : ∃ x, Hid (L.getD (3 * k + 2) [] = x) := ⟨_, rfl⟩
          rw [hx0.out] at r0 hl0
          rw [hx1.out] at r1 hl1
          rw [hx2.out] at r2 hl2
          have q0 : n0 ≤ 1048576 := by have := r0.1; omega
          have q1 : n1 ≤ 1048576 := by have := r1.1; omega
          have q2 : n2 ≤ 1048576 := by have := r2.1; omega
          have HT := hide (stepOf_any p a0 a1 a2 n0 n1 n2 c0 c1 c2 x0 x1 x2 _ (r0.alloc (.cells #[.slice a0 n0 c0, .slice a1 n1 c1, .slice a2 n2 c2] 106)) (r1.alloc _) (r2.alloc _) q0 q1 q2 hp)
          clear hr r0 r1 r2 hl0 hl1 hl2 hs' m0 m1 m2 q0 q1 q2
          go_wp2_with fail
          refine HT.out.mono ?_
          rintro e w2 ⟨rfl, hb2⟩
          have HI2 := hide ((hin.out.grow (below_al wr (.cells #[.slice a0 n0 c0, .slice a1 n1 c1, .slice a2 n2 c2] 106))).grow hb2)
          have hTO : Hid (triOk p L k = tri3Ok p x0 x1 x2) := by show _ = _; rw [triOk_eq, hx0.out, hx1.out, hx2.out]
          have h2s := HI2.out.size
          have r10' := cell_of_row w2 (w.heap.size + 1) 0 _ _ _ HI2.out.res
          have r11' := cell_of_row w2 (w.heap.size + 1) 1 _ _ _ HI2.out.res
          simp at r10' r11'
          have f10' := frozen_of_row w2 (w.heap.size + 1) 0 _ _ HI2.out.res
          have f11' := frozen_of_row w2 (w.heap.size + 1) 1 _ _ HI2.out.res
          have hp1' : w.heap.size + 1 < w2.heap.size := by omega
          clear HT hb2 hin r10 r11 f10 f11 hcp hc0 hc1 hc2 hpw hsz
          by_cases g : tri3Ok p x0 x1 x2 = true
          rotate_left
          · have g' : tri3Ok p x0 x1 x2 = false := by simpa using g
            have HN : Hid (netOk p n L = false) := netOk_no hlt (hTO.out.trans g')
            rw [g', show bit3 false x0 = 0 from rfl, show bit3 false x1 = 0 from rfl, show bit3 false x2 = 0 from rfl]
            have HB := hide (HI2.out.bel)
            clear g g' HI2 hx0 hx1 hx2 hTO hu HL
            go_wp2_with fail
            refine bodyPost_ret (v := .tuple #[.agg #[.int .i64 0, .slice none 0 0], .bool false]) (by simp [results, Try.results118, go_sem, r10', r11', hp1']) rfl ?_
            exact netEnd_no HN.out (((HB.out.setCell (by simp) _).setCell (by simp) _).alloc (by have := HB.out.size; simp [World.setCell]; omega) _)
          have HU : Hid ((List.range (k + 1)).all (triOk p L) = true) := all_range_succ hu.out (hTO.out.trans g)
          obtain ⟨s0, hs0⟩ : ∃ s, Hid ((maskL x0 : Int) = s) := ⟨_, rfl⟩
          obtain ⟨s1, hs1⟩ : ∃ s, Hid ((maskL x1 : Int) = s) := ⟨_, rfl⟩
          obtain ⟨s2, hs2⟩ : ∃ s, Hid ((maskL x2 : Int) = s) := ⟨_, rfl⟩
          rw [g, show bit3 true x0 = s0 from hs0.out, show bit3 true x1 = s1 from hs1.out, show bit3 true x2 = s2 from hs2.out]
          have HI3 := hide (HI2.out.grow (below_al w2 (.cells #[.int .u16 s0, .int .u16 s1, .int .u16 s2] 65)))
          have HI4 := hide (HI3.out.step (s0 := s0) (s1 := s1) (s2 := s2) hlt (by rw [hx0.out]; exact hs0.out) (by rw [hx1.out]; exact hs1.out) (by rw [hx2.out]; exact hs2.out))
          have HTH : Hid ((w2.alloc (.cells #[.int .u16 s0, .int .u16 s1, .int .u16 s2] 65)).there (w.heap.size + 1 + 1) (k * 3) 3) := by
            obtain ⟨C, h1, h2, _⟩ := HI3.out.part
            exact there_of_row h1 (by omega)
          clear g hTO hu HI2 HI3 hx0 hx1 hx2 hs0 hs1 hs2 HL
          go_wp2_with (refine wpList_store3 rfl 65 (.tmp 45) (.tmp 44) rfl _ _ _ _ _ rfl rfl HTH.out Try.size65 rfl rfl rfl ?_)
          go_roundw
          case rel => exact ⟨k + 1, by omega, by go_num, HU, HI4⟩
          case measure => simp [intOf]; omega
        · have hk' : k = n := by omega
          subst hk'
          have HN : Hid (netOk p k L = true) := netOk_yes hp hn hu.out
          go_wp2_with fail
          refine bodyPost_ret (v := .tuple #[.agg #[.int .i64 p, .slice (some ⟨w.heap.size + 1 + 1, 0, none⟩) k k], .bool true]) (by simp [results, Try.results118, go_sem, r10, r11]) rfl ?_
          exact ⟨_, _, _, _, by rw [HN.out], fun _ => ⟨rfl, rfl, rfl, _, rfl, by omega, (hin.out.part.set_other (by omega) _ _).set_other (by omega) _ _⟩, (hin.out.bel.setCell (by simp) _).setCell (by simp) _⟩
    · have HN : Hid (netOk p n L = false) := by show netOk p n L = false; unfold netOk; simp [hn]
      have hn' : (24 : Int) < (n : Int) := by omega
      clear h
      go_enter Try.func118, Try.ntmps118
      go_wp2_with (go_at_call 132; refine (goodPlaces_any _ _).mono ?_; rintro e w' ⟨rfl, rfl⟩)
      refine bodyPost_ret (v := .tuple #[.agg #[.int .i64 0, .slice none 0 0], .bool false]) (by simp [results, Try.results118, go_sem]) rfl ?_
      exact netEnd_no HN.out (below_two _ _ _)
  · have hp' : inB p 1 16 = false := by simpa using hp
    have HN : Hid (netOk p n L = false) := by show netOk p n L = false; unfold netOk; simp [hp']
    clear hp h
    go_enter Try.func118, Try.ntmps118
    go_wp2_with (go_at_call 132; refine (goodPlaces_any _ _).mono ?_; rintro e w' ⟨rfl, rfl⟩)
    refine bodyPost_ret (v := .tuple #[.agg #[.int .i64 0, .slice none 0 0], .bool false]) (by simp [results, Try.results118, go_sem]) rfl ?_
    exact netEnd_no HN.out (below_two _ _ _)

end Go.Proofs.Ytajcmamapmeglaa


/- How a net that comes in is opened: a number and a slice whose lists can be read. -/
namespace Go.Proofs.Ytajcmamapmeglaa
open Go.ChangeShapes Go.WideShapes Go.ChangeAt Go.RowKit Go.Deep Go.Joins

theorem row_of_ints {H : Type} {enc : TypeId × Value → H} {W : World} {base fuel : Nat} {v : Value} {x : DataW H × List MemPlace} (h : DataW.trod enc Try.prog W base (fun _ => true) true fuel 27 [v] = some x) :
    ∃ a n c xs, v = .slice a n c ∧ n ≤ maxLen ∧ Row W a n xs := by
  rcases open_ints Try.underlying27 Try.underlying3 (by kernel_rfl) h with ⟨hcs, _⟩ | ⟨y, l, c, zs, hcs, _, hl, hm, hz, _, hcell, _⟩
  · simp at hcs
    exact ⟨none, 0, 0, [], hcs, Nat.zero_le _, rfl, .inl rfl⟩
  · simp at hcs
    refine ⟨some y, l, c, zs.take l, hcs, by omega, ?_, ?_⟩
    · rw [List.length_take]; simp at hz; omega
    · by_cases h0 : l = 0
      · exact .inl h0
      · simp at hz
        obtain ⟨b, off, spot⟩ := y
        have hc := hcell 0 (by omega)
        have hspot : spot = none := by simpa [Addr.add] using World.cell?_spot hc
        subst hspot
        refine .inr ⟨b, off, rfl, ?_, fun i hi => ?_⟩
        · have := block_lt_of_cell hc; simpa [Addr.add] using this
        · have := hcell i (by omega)
          rw [List.getD_eq_getElem?_getD, List.getElem?_take_of_lt hi, ← List.getD_eq_getElem?_getD]
          rw [Addr.add_mid] at this
          exact this

theorem keep {v v' : World} {b : Nat} {C : Array Value} {t : TypeId} (h : v.heap[b]? = some (.cells C t (0, 0))) (hb : Below v.heap.size v v') : v'.heap[b]? = some (.cells C t (0, 0)) :=
  (hb.block b (Array.getElem?_eq_some_iff.mp h).1).trans h

theorem cells2 {v : World} {b : Nat} {x y : Value} {t : TypeId} (h : v.heap[b]? = some (.cells #[x, y] t (0, 0))) : v.cell? ⟨b, 0, none⟩ = some x ∧ v.cell? ⟨b, 1, none⟩ = some y :=
  ⟨cell_of_row v b 0 _ _ _ h, cell_of_row v b 1 _ _ _ h⟩

theorem row_lt {v : World} {b : Nat} {C : Array Value} {t : TypeId} (h : v.heap[b]? = some (.cells C t (0, 0))) : b < v.heap.size := (Array.getElem?_eq_some_iff.mp h).1
end Go.Proofs.Ytajcmamapmeglaa


/- HasResets of the specification. -/
namespace Go.Proofs.Ytajcmamapmeglaa
open Go.RowKit

def resB (n : Nat) (L : List (List Int)) : Bool := (List.range n).any fun i => !(L.getD (3 * i + 2) []).isEmpty

theorem resB_yes {n k : Nat} {L : List (List Int)} (hk : k < n) (h : L.getD (3 * k + 2) [] ≠ []) : resB n L = true := by
  unfold resB
  rw [List.any_eq_true]
  refine ⟨k, by simpa using hk, ?_⟩
  cases hq : L.getD (3 * k + 2) []
  · exact absurd hq h
  · rfl

theorem resB_step {k : Nat} {L : List (List Int)} (h : resB k L = false) (he : L.getD (3 * k + 2) [] = []) : resB (k + 1) L = false := by
  unfold resB at *
  rw [List.range_succ, List.any_append, h]
  simp only [List.any_cons, List.any_nil, Bool.or_false, Bool.false_or, he]
  rfl

set_option maxHeartbeats 1000000 in
theorem resS_any (p : Int) (a : Option Addr) (n c : Nat) (L : List (List Int)) (w : World) (h : Lists w a (3 * n) L) (hn : n ≤ 24) :
    Calls Try.prog 125 #[.agg #[.int .i64 p, .slice a n c]] w fun e w' => e = .returned (.bool (resB n L)) ∧ Below w.heap.size w w' := by
  have hAl := below_al w (.cells #[.int .i64 p, .slice a n c] 26)
  have HL := hide h
  have HB0 := hide hAl
  clear h hAl
  go_enter Try.func125, Try.ntmps125
  go_wp2_with fail
  obtain ⟨V, hV⟩ : ∃ V, Hid (w.alloc (.cells #[.int .i64 p, .slice a n c] 26) = V) := ⟨_, rfl⟩
  rw [hV.out] at HB0 ⊢
  clear hV
  go_loopw [8] (fun i wr => ∃ k : Nat, k ≤ n ∧ i = .int .i64 k ∧ Hid (resB k L = false) ∧ Hid (Below w.heap.size w wr)) (fun i _ => n - (intOf i).toNat)
  case atStart => exact ⟨0, Nat.zero_le _, rfl, rfl, HB0⟩
  case round =>
    obtain ⟨k, hk, rfl, hu, hbw⟩ := hrel
    by_cases hlt : k < n
    rotate_left
    · have hk' : k = n := by omega
      subst hk'
      go_wp2_with fail
      go_ret
      exact ⟨ret_bool hu.out.symm, hbw.out⟩
    obtain ⟨b, off, a0, n0, c0, a1, n1, c1, a2, n2, c2, rfl, hb, hr, m0, m1, m2, r0, r1, r2⟩ := (HL.out.below hbw.out).tri hlt
    obtain ⟨hc0, hc1, hc2⟩ := rangeAt_cells3 hr
    have hl := r2.1
    have hA1 := below_al wr (.cells #[.slice a0 n0 c0, .slice a1 n1 c1, .slice a2 n2 c2] 106)
    have HB1 := hide (hbw.out.trans (hA1.mono hbw.out.size))
    clear hr r0 r1 r2 m0 m1 m2 hA1
    by_cases hz : n2 = 0
    · subst hz
      have HU := hide (resB_step hu.out (List.length_eq_zero_iff.mp hl))
      clear hl hu
      go_wp2_with fail
      go_roundw
      case rel => exact ⟨k + 1, by omega, by go_num, HU, HB1⟩
      case measure => simp [intOf]; omega
    · have HY := hide (resB_yes hlt (fun e => hz (by rw [← hl, e]; rfl)))
      have hz' : (0 : Int) < (n2 : Int) := by omega
      clear hl hu
      go_wp2_with fail
      go_ret
      exact ⟨ret_bool HY.out.symm, HB1.out⟩

theorem ret_2 {a b c d : Bool} (h : a = b) (hb : c = d) : Ending.returned (.tuple #[.bool a, .bool c]) = .returned (.tuple #[.bool b, .bool d]) := by rw [h, hb]

theorem netN {p : Int} {n : Nat} {L : List (List Int)} (h : netOk p n L = true) : n ≤ 24 := by
  unfold netOk at h; simp at h; exact h.1.2

end Go.Proofs.Ytajcmamapmeglaa


/- HasResets of the program: slices.ContainsFunc over its steps. -/
namespace Go.Proofs.Ytajcmamapmeglaa
open Go.RowKit

theorem PartS.at3 {w : World} {B n k : Nat} {L : List (List Int)} (h : PartS w B (3 * n) (3 * n) L) (hk : k < n) :
    w.cell? ⟨B, k * 3, none⟩ = some (.int .u16 (maskL (L.getD (3 * k) []) : Int)) ∧ w.cell? ⟨B, k * 3 + 1, none⟩ = some (.int .u16 (maskL (L.getD (3 * k + 1) []) : Int)) ∧ w.cell? ⟨B, k * 3 + 2, none⟩ = some (.int .u16 (maskL (L.getD (3 * k + 2) []) : Int)) := by
  obtain ⟨C, h1, h2, h3⟩ := h
  refine ⟨?_, ?_, ?_⟩
  · rw [cell_of_row w B _ C _ _ h1, Nat.mul_comm]; exact h3 _ (by omega)
  · rw [cell_of_row w B _ C _ _ h1, Nat.mul_comm]; exact h3 _ (by omega)
  · rw [cell_of_row w B _ C _ _ h1, Nat.mul_comm]; exact h3 _ (by omega)

set_option maxHeartbeats 400000 in
theorem empties_any (s0 s1 s2 : Nat) (w : World) :
    Calls Try.prog 121 #[.agg #[.int .u16 (s0 : Int), .int .u16 (s1 : Int), .int .u16 (s2 : Int)]] w fun e w' => e = .returned (.bool (!decide (s2 = 0))) ∧ Below w.heap.size w w' := by
  by_cases h : s2 = 0
  · subst h
    go_enter Try.func121, Try.ntmps121
    go_wp2_with fail
    go_ret
    exact ⟨rfl, below_al _ _⟩
  · have hd : ((s2 : Int) != 0) = true := by simp; omega
    have HB := hide (show (!decide (s2 = 0)) = true by simp [h])
    clear h
    go_enter Try.func121, Try.ntmps121
    go_wp2_with fail
    go_ret
    exact ⟨ret_bool HB.out.symm, below_al _ _⟩

def resM (n : Nat) (L : List (List Int)) : Bool := (List.range n).any fun i => !decide (maskL (L.getD (3 * i + 2) []) = 0)

theorem resM_yes {n k : Nat} {L : List (List Int)} (hk : k < n) (h : (!decide (maskL (L.getD (3 * k + 2) []) = 0)) = true) : resM n L = true := by
  unfold resM
  rw [List.any_eq_true]
  exact ⟨k, by simpa using hk, h⟩

theorem resM_step {k : Nat} {L : List (List Int)} (h : resM k L = false) (he : (!decide (maskL (L.getD (3 * k + 2) []) = 0)) = false) : resM (k + 1) L = false := by
  unfold resM at *
  rw [List.range_succ, List.any_append, h]
  simp only [List.any_cons, List.any_nil, Bool.or_false, he]

/-- Where the first one is that empties a place, or -1. -/
def IdxEnd (n : Nat) (L : List (List Int)) (w : World) (e : Ending) (w' : World) : Prop := ∃ z : Int, e = .returned (.int .i64 z) ∧ Hid (decide (0 ≤ z) = resM n L) ∧ Below w.heap.size w w'

set_option maxHeartbeats 1000000 in
theorem index_any (B n : Nat) (L : List (List Int)) (w : World) (h : PartS w B (3 * n) (3 * n) L) (hn : n ≤ 24) :
    Calls Try.prog 115 #[.slice (some ⟨B, 0, none⟩) n n, .func (.func 121) #[] #[]] w fun e w' => IdxEnd n L w e w' := by
  have HP := hide h
  clear h
  go_enter Try.func115, Try.ntmps115
  go_wp2_with fail
  go_loopw [8] (fun i wr => ∃ k : Nat, k ≤ n ∧ i = .int .i64 k ∧ Hid (resM k L = false) ∧ Hid (Below w.heap.size w wr)) (fun i _ => n - (intOf i).toNat)
  case atStart => exact ⟨0, Nat.zero_le _, rfl, rfl, Below.refl _ _⟩
  case round =>
    obtain ⟨k, hk, rfl, hu, hbw⟩ := hrel
    by_cases hlt : k < n
    rotate_left
    · have hk' : k = n := by omega
      subst hk'
      have HE : Hid (IdxEnd k L w (.returned (.int .i64 (-1))) wr) := ⟨-1, rfl, by rw [hu.out]; rfl, hbw.out⟩
      go_wp2_with fail
      go_ret
      exact HE.out
    obtain ⟨hc0, hc1, hc2⟩ := (HP.out.grow hbw.out).at3 hlt
    have HH := hide (empties_any (maskL (L.getD (3 * k) [])) (maskL (L.getD (3 * k + 1) [])) (maskL (L.getD (3 * k + 2) [])) wr)
    cases hh : !decide (maskL (L.getD (3 * k + 2) []) = 0)
    · have HU := hide (resM_step hu.out hh)
      rw [hh] at HH
      clear hh hu
      generalize maskL (L.getD (3 * k) []) = s0 at *
      generalize maskL (L.getD (3 * k + 1) []) = s1 at *
      generalize maskL (L.getD (3 * k + 2) []) = s2 at *
      go_wp2_with fail
      refine HH.out.mono ?_
      rintro e w1 ⟨rfl, hb⟩
      have HB := hide (hbw.out.trans (hb.mono hbw.out.size))
      clear hb HH hc0 hc1 hc2
      go_wp2_with fail
      go_roundw
      case rel => exact ⟨k + 1, by omega, by go_num, HU, HB⟩
      case measure => simp [intOf]; omega
    · have HY := hide (resM_yes hlt hh)
      rw [hh] at HH
      clear hh hu
      generalize maskL (L.getD (3 * k) []) = s0 at *
      generalize maskL (L.getD (3 * k + 1) []) = s1 at *
      generalize maskL (L.getD (3 * k + 2) []) = s2 at *
      go_wp2_with fail
      refine HH.out.mono ?_
      rintro e w1 ⟨rfl, hb⟩
      have HE : Hid (IdxEnd n L w (.returned (.int .i64 (k : Int))) w1) := ⟨k, rfl, by rw [HY.out]; simp [Hid], hbw.out.trans (hb.mono hbw.out.size)⟩
      clear hb HH hc0 hc1 hc2
      go_wp2_with fail
      go_ret
      exact HE.out

set_option maxHeartbeats 400000 in
theorem contains_any (B n : Nat) (L : List (List Int)) (w : World) (h : PartS w B (3 * n) (3 * n) L) (hn : n ≤ 24) :
    Calls Try.prog 55 #[.slice (some ⟨B, 0, none⟩) n n, .func (.func 121) #[] #[]] w fun e w' => e = .returned (.bool (resM n L)) ∧ Below w.heap.size w w' := by
  have HI := hide (index_any B n L w h hn)
  clear h
  go_enter Try.func55, Try.ntmps55
  go_wp2_with fail
  refine HI.out.mono ?_
  rintro e w1 ⟨z, rfl, hz, hb⟩
  have HB := hide hb
  clear hb HI
  go_wp2_with fail
  go_ret
  exact ⟨ret_bool hz.out, HB.out⟩

theorem res_eq {p : Int} {n : Nat} {L : List (List Int)} (h : netOk p n L = true) : resM n L = resB n L := by
  have key : ∀ i, i < n → (!decide (maskL (L.getD (3 * i + 2) []) = 0)) = !(L.getD (3 * i + 2) []).isEmpty := by
    intro i hi
    unfold netOk at h
    rw [Bool.and_eq_true] at h
    have ht := List.all_eq_true.mp h.2 i (by simpa using hi)
    unfold triOk at ht
    simp only [Bool.and_eq_true] at ht
    have hz := maskL_zero (fun x hx => (riseB_mem ht.2 x hx).1)
    by_cases e : L.getD (3 * i + 2) [] = []
    · rw [e]; rfl
    · have : ¬ maskL (L.getD (3 * i + 2) []) = 0 := fun q => e (hz.mp q)
      rw [decide_eq_false this]
      cases hq : L.getD (3 * i + 2) []
      · exact absurd hq e
      · rfl
  unfold resM resB
  rw [Bool.eq_iff_iff, List.any_eq_true, List.any_eq_true]
  constructor
  · rintro ⟨i, hi, hh⟩; exact ⟨i, hi, by rw [← key i (by simpa using hi)]; exact hh⟩
  · rintro ⟨i, hi, hh⟩; exact ⟨i, hi, by rw [key i (by simpa using hi)]; exact hh⟩

end Go.Proofs.Ytajcmamapmeglaa


/- stepsWithoutResets of the program: it takes a good net without Resets. -/
namespace Go.Proofs.Ytajcmamapmeglaa
open Go.RowKit

set_option maxHeartbeats 1000000 in
theorem stepsNR_any (p : Int) (a : Option Addr) (n c : Nat) (L : List (List Int)) (w : World) (h : Lists w a (3 * n) L) (hs : sizeN n L ≤ 1048576) :
    Calls Try.prog 67 #[.agg #[.int .i64 p, .slice a n c]] w fun e w' => NetEnd (netOk p n L && !resB n L) p n L w e w' := by
  have HA := hide (below_two w (.cells #[.int .i64 p, .slice a n c] 26) (.cells #[.int .i64 0, .slice none 0 0] 59))
  have HT := hide (netSteps_any p a n c L ((w.alloc (.cells #[.int .i64 p, .slice a n c] 26)).alloc (.cells #[.int .i64 0, .slice none 0 0] 59)) (h.below HA.out) hs)
  have HR0 : Hid (((w.alloc (.cells #[.int .i64 p, .slice a n c] 26)).alloc (.cells #[.int .i64 0, .slice none 0 0] 59)).heap[w.heap.size + 1]? = some (.cells #[.int .i64 0, .slice none 0 0] 59 (0, 0))) := by
    have := heap_alloc_new (w.alloc (.cells #[.int .i64 p, .slice a n c] 26)) (.cells #[.int .i64 0, .slice none 0 0] 59)
    rw [show (w.alloc (.cells #[.int .i64 p, .slice a n c] 26)).heap.size = w.heap.size + 1 by simp] at this
    exact this
  clear h
  by_cases hg : netOk p n L = true
  rotate_left
  · have hg' : netOk p n L = false := by simpa using hg
    have HF : Hid ((netOk p n L && !resB n L) = false) := by show _ = _; rw [hg']; rfl
    rw [hg'] at HT
    rw [HF.out]
    clear hg hg' HF
    go_enter Try.func67, Try.ntmps67
    go_wp2_with fail
    refine HT.out.mono ?_
    rintro e w2 ⟨p', a', m, c', rfl, hx, hb⟩
    have HB2 := hide (HA.out.trans (hb.mono HA.out.size))
    have hR := (hb.block (w.heap.size + 1) (by simp)).trans HR0.out
    have hr0 : w2.cell? ⟨w.heap.size + 1, 0, none⟩ = some (.int .i64 0) := cell_of_row w2 _ 0 _ _ _ hR
    have hr1 : w2.cell? ⟨w.heap.size + 1, 1, none⟩ = some (.slice none 0 0) := cell_of_row w2 _ 1 _ _ _ hR
    have hf0 : w2.frozen? ⟨w.heap.size + 1, 0, none⟩ = false := frozen_of_row w2 _ 0 _ _ hR
    have hf1 : w2.frozen? ⟨w.heap.size + 1, 1, none⟩ = false := frozen_of_row w2 _ 1 _ _ hR
    have hlr : w.heap.size + 1 < w2.heap.size := (Array.getElem?_eq_some_iff.mp hR).1
    clear hb HT hx HA HR0 hR
    go_wp2_with fail
    refine bodyPost_ret (v := .tuple #[.agg #[.int .i64 0, .slice none 0 0], .bool false]) (by simp [results, Try.results67, go_sem, hr0, hr1, hlr]) rfl ?_
    exact ⟨_, _, _, _, rfl, by intro e; simp at e, (((HB2.out.setCell (by simp) _).setCell (by simp) _).alloc (by have := HB2.out.size; simp [World.setCell]; omega) _)⟩
  have HR := hide (res_eq hg)
  have HG := hide hg
  have hn24 := netN hg
  rw [hg] at HT
  clear hg
  go_enter Try.func67, Try.ntmps67
  go_wp2_with fail
  refine HT.out.mono ?_
  rintro e w2 ⟨p', a', m, c', rfl, hx, hb⟩
  obtain ⟨e1, e2, e3, B, rfl, hBs, hps⟩ := hx.out rfl
  subst e1 e2 e3
  have hA := below_al w2 (.cells #[.int .i64 p', .slice (some ⟨B, 0, none⟩) c' c'] 59)
  have HC := hide (contains_any B c' L _ (hps.grow hA) hn24)
  have HB2 := hide (HA.out.trans (hb.mono HA.out.size))
  have HR2 := hide ((hb.block (w.heap.size + 1) (by simp)).trans HR0.out)
  have hBs' : w.heap.size ≤ B := by have := HA.out.size; omega
  go_wp2_with fail
  refine HC.out.mono ?_
  rintro e w3 ⟨rfl, hb3⟩
  have HB3 := hide (HB2.out.trans ((hA.trans (hb3.mono hA.size)).mono HB2.out.size))
  have HPS := hide ((hps.grow hA).grow hb3)
  have hvl : w2.heap.size < w3.heap.size := by have := hb3.size; simp at this; omega
  have hv0 : w3.cell? ⟨w2.heap.size, 0, none⟩ = some (.int .i64 p') := by rw [hb3.cell (by simp)]; simp
  have hv1 : w3.cell? ⟨w2.heap.size, 1, none⟩ = some (.slice (some ⟨B, 0, none⟩) c' c') := by rw [hb3.cell (by simp)]; simp
  have hR := ((hA.trans (hb3.mono hA.size)).block (w.heap.size + 1) (Array.getElem?_eq_some_iff.mp HR2.out).1).trans HR2.out
  have hB1 : B ≠ w.heap.size + 1 := by have := HA.out.size; simp at hBs; omega
  have hr0 : w3.cell? ⟨w.heap.size + 1, 0, none⟩ = some (.int .i64 0) := cell_of_row w3 _ 0 _ _ _ hR
  have hr1 : w3.cell? ⟨w.heap.size + 1, 1, none⟩ = some (.slice none 0 0) := cell_of_row w3 _ 1 _ _ _ hR
  have hf0 : w3.frozen? ⟨w.heap.size + 1, 0, none⟩ = false := frozen_of_row w3 _ 0 _ _ hR
  have hf1 : w3.frozen? ⟨w.heap.size + 1, 1, none⟩ = false := frozen_of_row w3 _ 1 _ _ hR
  have hlr : w.heap.size + 1 < w3.heap.size := (Array.getElem?_eq_some_iff.mp hR).1
  clear HT hb hx hps hA HC hb3 hBs HR0 HR2 HA HB2 hR
  generalize w2.heap.size = z2 at *
  clear w2
  by_cases hrm : resM c' L = true
  · have HF : Hid ((netOk p' c' L && !resB c' L) = false) := by show _ = _; rw [← HR.out, hrm, HG.out]; rfl
    rw [hrm]
    clear hrm hv0 hv1
    go_wp2_with fail
    refine bodyPost_ret (v := .tuple #[.agg #[.int .i64 0, .slice none 0 0], .bool false]) (by simp [results, Try.results67, go_sem, hr0, hr1]) rfl ?_
    show NetEnd _ _ _ _ _ _ _
    rw [HF.out]
    exact ⟨_, _, _, _, rfl, by intro e; simp at e, ((HB3.out.setCell (by simp) _).setCell (by simp) _)⟩
  have hrm' : resM c' L = false := by simpa using hrm
  have HF : Hid ((netOk p' c' L && !resB c' L) = true) := by show _ = _; rw [← HR.out, hrm', HG.out]; rfl
  rw [hrm']
  clear hrm hrm'
  go_wp2_with fail
  refine bodyPost_ret (v := .tuple #[.agg #[.int .i64 p', .slice (some ⟨B, 0, none⟩) c' c'], .bool true]) (by simp [results, Try.results67, go_sem, hr0, hr1]) rfl ?_
  show NetEnd _ _ _ _ _ _ _
  rw [HF.out]
  exact ⟨_, _, _, _, rfl, fun _ => ⟨rfl, rfl, rfl, B, rfl, hBs', (HPS.out.set_other (by omega) _ _).set_other (by omega) _ _⟩, (HB3.out.setCell (by simp) _).setCell (by simp) _⟩
end Go.Proofs.Ytajcmamapmeglaa


/- What tokensOf and both GoodMarks answer, for every number of places and every list: true just where the places are in 1..16, the list is as long, and each of its numbers is in 0..50; nothing that was there is written. -/
namespace Go.Proofs.Ytajcmamapmeglaa
open Go.RowKit

theorem goodB_of {p : Int} {n : Nat} {xs : List Int} (hl : xs.length = n) (hp : inB p 1 16 = true) (hn : (n : Int) = p) : goodB p xs = allB xs 0 50 := by
  simp [goodB, hp, hl, hn]

theorem goodB_p {p : Int} {xs : List Int} (hp : inB p 1 16 = false) : goodB p xs = false := by simp [goodB, hp]

theorem goodB_n {p : Int} {n : Nat} {xs : List Int} (hl : xs.length = n) (hn : ¬ (n : Int) = p) : goodB p xs = false := by
  simp [goodB, hl, hn]

theorem inB_le {p : Int} {n : Nat} (hp : inB p 1 16 = true) (hn : (n : Int) = p) : 1 ≤ n ∧ n ≤ 16 := by
  simp [inB] at hp; omega

set_option maxHeartbeats 400000 in
theorem tokens_any (p : Int) (a : Option Addr) (n ca : Nat) (xs : List Int) (w : World) (ha : Row w a n xs) (_hn : n ≤ 1048576) :
    Calls Try.prog 85 #[.int .i64 p, .slice a n ca] w fun e w' => TokEnd (goodB p xs) xs n w e w' := by
  by_cases hp : inB p 1 16 = true
  · by_cases hnp : (n : Int) = p
    · exact tokens_run _ p a n ca xs w ha hp hnp (inB_le hp hnp).2 (goodB_of ha.1 hp hnp)
    · have hd : ((n : Int) != p) = true := by simp [hnp]
      have HG : Hid (goodB p xs = false) := goodB_n ha.1 hnp
      clear hnp ha
      go_enter Try.func85, Try.ntmps85
      go_wp2_with (go_at_call 132; refine (goodPlaces_any _ _).mono ?_; rintro e w' ⟨rfl, rfl⟩)
      exact bodyPost_ret (v := .tuple #[.agg #[.int .u8 0, .int .u8 0, .int .u8 0, .int .u8 0, .int .u8 0, .int .u8 0, .int .u8 0, .int .u8 0, .int .u8 0, .int .u8 0, .int .u8 0, .int .u8 0, .int .u8 0, .int .u8 0, .int .u8 0, .int .u8 0], .bool false]) (by simp [results, Try.results85, go_sem]) rfl (tokEnd_no HG.out (below_two _ _ _))
  · have hp' : inB p 1 16 = false := by simpa using hp
    have HG : Hid (goodB p xs = false) := goodB_p hp'
    clear hp ha
    go_enter Try.func85, Try.ntmps85
    go_wp2_with (go_at_call 132; refine (goodPlaces_any _ _).mono ?_; rintro e w' ⟨rfl, rfl⟩)
    exact bodyPost_ret (v := .tuple #[.agg #[.int .u8 0, .int .u8 0, .int .u8 0, .int .u8 0, .int .u8 0, .int .u8 0, .int .u8 0, .int .u8 0, .int .u8 0, .int .u8 0, .int .u8 0, .int .u8 0, .int .u8 0, .int .u8 0, .int .u8 0, .int .u8 0], .bool false]) (by simp [results, Try.results85, go_sem]) rfl (tokEnd_no HG.out (below_two _ _ _))

/-- A call that answers a bool and writes into nothing that was there. -/
def BoolEnd (b : Bool) (w : World) (e : Ending) (w' : World) : Prop := e = .returned (.bool b) ∧ Below w.heap.size w w'

set_option maxHeartbeats 400000 in
theorem goodI_any (p : Int) (a : Option Addr) (n ca : Nat) (xs : List Int) (w : World) (ha : Row w a n xs) (hn : n ≤ 1048576) :
    Calls Try.prog 58 #[.int .i64 p, .slice a n ca] w fun e w' => BoolEnd (goodB p xs) w e w' := by
  obtain ⟨g, hg⟩ : ∃ g, Hid (goodB p xs = g) := ⟨_, rfl⟩
  have ht := tokens_any p a n ca xs w ha hn
  rw [hg.out] at ht ⊢
  have HT := hide ht
  clear ht ha hg hn
  go_enter Try.func58, Try.ntmps58
  go_wp2_with (first
    | (go_at_call 85; refine HT.out.mono ?_; rintro e w1 ⟨m, rfl, hm, hb1⟩; have hg0 := heap_alloc_new w1 (.cells #[.int .u8 0, .int .u8 0, .int .u8 0, .int .u8 0, .int .u8 0, .int .u8 0, .int .u8 0, .int .u8 0, .int .u8 0, .int .u8 0, .int .u8 0, .int .u8 0, .int .u8 0, .int .u8 0, .int .u8 0, .int .u8 0] 74))
    | refine wpList_store_row rfl 74 _ _ rfl _ _ rfl rfl 74 _ (by assumption) (by rw [packOf_size]; exact Try.size74) (by rw [packOf_size]; rfl) (packOf_one _ _) ?_)
  go_ret
  exact ⟨rfl, below_setRow (hb1.alloc hb1.size _) _ hb1.size _⟩

def AllUpto (xs : List Int) (lo hi : Int) (k : Nat) : Prop := allB (xs.take k) lo hi = true

theorem AllUpto.step {xs : List Int} {lo hi : Int} {k : Nat} {x : Int} (h : AllUpto xs lo hi k) (hx : Hid (xs[k]? = some x)) (hi' : inB x lo hi = true) : AllUpto xs lo hi (k + 1) := by
  unfold AllUpto allB at *
  rw [List.take_add_one, hx.out, List.all_append, h]
  simp [hi']

theorem AllUpto.done {xs : List Int} {lo hi : Int} {n : Nat} (h : AllUpto xs lo hi n) (hl : xs.length = n) : allB xs lo hi = true := by
  unfold AllUpto at h
  rwa [List.take_of_length_le (by omega)] at h

theorem allB_no {xs : List Int} {lo hi : Int} {k : Nat} {x : Int} (hx : Hid (xs[k]? = some x)) (hi' : inB x lo hi = false) : allB xs lo hi = false := by
  unfold allB
  rw [List.all_eq_false]
  exact ⟨x, List.mem_of_getElem? hx.out, by simp [hi']⟩

set_option maxHeartbeats 400000 in
theorem allG_any (a : Option Addr) (n ca : Nat) (xs : List Int) (lo hi : Int) (w : World) (ha : Row w a n xs) (hn : n ≤ 1048576) :
    Calls Try.prog 78 #[.slice a n ca, .int .i64 lo, .int .i64 hi] w fun e w' => e = .returned (.bool (allB xs lo hi)) ∧ w' = w := by
  go_enter Try.func78, Try.ntmps78
  go_wp2
  go_loop [11] (fun i => ∃ k : Nat, k ≤ n ∧ i = .int .i64 k ∧ AllUpto xs lo hi k) (fun i => n - (intOf i).toNat)
  case atStart => exact ⟨0, Nat.zero_le _, rfl, rfl⟩
  case round =>
    obtain ⟨k, hk, rfl, hu⟩ := hrel
    by_cases hlt : k < n
    · obtain ⟨b1, o1, x, rfl, hl1, hc1, H1⟩ := ha.at hlt
      clear ha
      by_cases hi' : inB x lo hi = true
      · have HU := hu.step H1 hi'
        clear hu H1
        go_wp2_with (go_at_call 126; refine (in_any _ _ _ _).mono ?_; rintro e w' ⟨rfl, rfl⟩)
        go_round
        case rel => exact ⟨k + 1, by omega, by go_num, HU⟩
        case measure => simp [intOf]; omega
      · have hi'' : inB x lo hi = false := by simpa using hi'
        have HA := hide (allB_no H1 hi'')
        clear hu H1 hi'
        go_wp2_with (go_at_call 126; refine (in_any _ _ _ _).mono ?_; rintro e w' ⟨rfl, rfl⟩)
        go_ret
        exact ⟨ret_bool HA.out.symm, rfl⟩
    · have hk' : k = n := by omega
      subst hk'
      have HA := hide (hu.done ha.1)
      go_wp2
      go_ret
      exact ⟨ret_bool HA.out.symm, rfl⟩

set_option maxHeartbeats 400000 in
theorem goodS_any (p : Int) (a : Option Addr) (n ca : Nat) (xs : List Int) (w : World) (ha : Row w a n xs) (hn : n ≤ 1048576) :
    Calls Try.prog 61 #[.int .i64 p, .slice a n ca] w fun e w' => e = .returned (.bool (goodB p xs)) ∧ w' = w := by
  by_cases hp : inB p 1 16 = true
  · by_cases hnp : (n : Int) = p
    · have hd : ((n : Int) == p) = true := by simp [hnp]
      have HG := hide (goodB_of ha.1 hp hnp)
      have HA := hide (allG_any a n ca xs 0 50 w ha hn)
      clear hnp ha
      go_enter Try.func61, Try.ntmps61
      go_wp2_with (first
        | (go_at_call 117; refine (places_any _ _).mono ?_; rintro e w' ⟨rfl, rfl⟩)
        | (go_at_call 78; refine HA.out.mono ?_; rintro e w' ⟨rfl, rfl⟩))
      go_ret
      exact ⟨ret_bool HG.out.symm, rfl⟩
    · have hd : ((n : Int) == p) = false := by simp [hnp]
      have HG := hide (goodB_n ha.1 hnp)
      clear hnp ha
      go_enter Try.func61, Try.ntmps61
      go_wp2_with (go_at_call 117; refine (places_any _ _).mono ?_; rintro e w' ⟨rfl, rfl⟩)
      go_ret
      exact ⟨ret_bool HG.out.symm, rfl⟩
  · have hp' : inB p 1 16 = false := by simpa using hp
    have HG := hide (goodB_p (xs := xs) hp')
    clear hp ha
    go_enter Try.func61, Try.ntmps61
    go_wp2_with (go_at_call 117; refine (places_any _ _).mono ?_; rintro e w' ⟨rfl, rfl⟩)
    go_ret
    exact ⟨ret_bool HG.out.symm, rfl⟩
end Go.Proofs.Ytajcmamapmeglaa


/- goodNumbers of the program: so many numbers, none of them beyond a bound. -/
namespace Go.Proofs.Ytajcmamapmeglaa
open Go.RowKit
set_option maxRecDepth 10000

set_option maxHeartbeats 400000 in
theorem beyond_any (x lo hi : Int) (bl bm : Nat) (w : World) (h1 : w.cell? ⟨bl, 0, none⟩ = some (.int .i64 lo)) (h2 : w.cell? ⟨bm, 0, none⟩ = some (.int .i64 hi)) :
    Calls Try.prog 146 #[.int .i64 x, .pointer (some ⟨bl, 0, none⟩), .pointer (some ⟨bm, 0, none⟩)] w fun e w' => e = .returned (.bool (!inB x lo hi)) ∧ w' = w := by
  by_cases hl : x < lo
  · have HI := hide (show (!inB x lo hi) = true by unfold inB; simp; omega)
    go_enter Try.func146, Try.ntmps146
    go_wp2_with fail
    go_ret
    exact ⟨ret_bool HI.out.symm, rfl⟩
  by_cases hh : hi < x
  · have HI := hide (show (!inB x lo hi) = true by unfold inB; simp; omega)
    go_enter Try.func146, Try.ntmps146
    go_wp2_with fail
    go_ret
    exact ⟨ret_bool HI.out.symm, rfl⟩
  have HI := hide (show (!inB x lo hi) = false by unfold inB; simp; omega)
  go_enter Try.func146, Try.ntmps146
  go_wp2_with fail
  go_ret
  exact ⟨ret_bool HI.out.symm, rfl⟩

/-- Where the first number beyond a bound is, or -1. -/
def ByEnd (g : Bool) (w : World) (e : Ending) (w' : World) : Prop := ∃ z : Int, e = .returned (.int .i64 z) ∧ Hid (decide (0 ≤ z) = !g) ∧ w' = w

set_option maxHeartbeats 1000000 in
theorem beyIx_any (a : Option Addr) (n c : Nat) (xs : List Int) (lo hi : Int) (bl bm : Nat) (w : World) (rt : Row w a n xs) (hn : n ≤ 1048576) (h1 : w.cell? ⟨bl, 0, none⟩ = some (.int .i64 lo)) (h2 : w.cell? ⟨bm, 0, none⟩ = some (.int .i64 hi)) :
    Calls Try.prog 119 #[.slice a n c, .func (.func 146) #[] #[.pointer (some ⟨bl, 0, none⟩), .pointer (some ⟨bm, 0, none⟩)]] w fun e w' => ByEnd (allB xs lo hi) w e w' := by
  have HC := hide (fun x => beyond_any x lo hi bl bm w h1 h2)
  have hlen := rt.1
  clear h1 h2
  go_enter Try.func119, Try.ntmps119
  go_wp2_with fail
  go_loop [8] (fun i => ∃ k : Nat, k ≤ n ∧ i = .int .i64 k ∧ Hid (AllUpto xs lo hi k)) (fun i => n - (intOf i).toNat)
  case atStart => exact ⟨0, Nat.zero_le _, rfl, rfl⟩
  case round =>
    obtain ⟨k, hk, rfl, hu⟩ := hrel
    by_cases hkn : k < n
    rotate_left
    · have hk' : k = n := by omega
      subst hk'
      have HE : Hid (ByEnd (allB xs lo hi) w (.returned (.int .i64 (-1))) w) := ⟨-1, rfl, by rw [hu.out.done hlen]; rfl, rfl⟩
      go_wp2_with fail
      go_ret
      exact HE.out
    obtain ⟨b1, o1, t, rfl, hl1, hc1, H1⟩ := rt.at hkn
    have HH := hide (HC.out t)
    clear rt
    by_cases hi' : inB t lo hi = true
    · have HU := hide (hu.out.step H1 hi')
      rw [hi'] at HH
      clear hi' hu H1
      go_wp2_with fail
      refine HH.out.mono ?_
      rintro e w1 ⟨rfl, rfl⟩
      clear HH hc1 hl1
      go_wp2_with fail
      go_round
      case rel => exact ⟨k + 1, by omega, by go_num, HU⟩
      case measure => simp [intOf]; omega
    · have hi'' : inB t lo hi = false := by simpa using hi'
      have HE : Hid (ByEnd (allB xs lo hi) w (.returned (.int .i64 (k : Int))) w) := ⟨k, rfl, by rw [allB_no H1 hi'']; simp [Hid], rfl⟩
      rw [hi''] at HH
      clear hi' hi'' hu H1
      go_wp2_with fail
      refine HH.out.mono ?_
      rintro e w1 ⟨rfl, rfl⟩
      clear HH hc1 hl1
      go_wp2_with fail
      go_ret
      exact HE.out

set_option maxHeartbeats 400000 in
theorem beyC_any (a : Option Addr) (n c : Nat) (xs : List Int) (lo hi : Int) (bl bm : Nat) (w : World) (rt : Row w a n xs) (hn : n ≤ 1048576) (h1 : w.cell? ⟨bl, 0, none⟩ = some (.int .i64 lo)) (h2 : w.cell? ⟨bm, 0, none⟩ = some (.int .i64 hi)) :
    Calls Try.prog 63 #[.slice a n c, .func (.func 146) #[] #[.pointer (some ⟨bl, 0, none⟩), .pointer (some ⟨bm, 0, none⟩)]] w fun e w' => e = .returned (.bool (!allB xs lo hi)) ∧ w' = w := by
  have HI := hide (beyIx_any a n c xs lo hi bl bm w rt hn h1 h2)
  clear rt h1 h2
  go_enter Try.func63, Try.ntmps63
  go_wp2_with fail
  refine HI.out.mono ?_
  rintro e w1 ⟨z, rfl, hz, rfl⟩
  clear HI
  go_wp2_with fail
  go_ret
  exact ⟨ret_bool hz.out, rfl⟩

set_option maxHeartbeats 1000000 in
theorem goodNumbers_any (a : Option Addr) (n c : Nat) (xs : List Int) (many lo hi : Int) (w : World) (rt : Row w a n xs) (hn : n ≤ 1048576) :
    Calls Try.prog 113 #[.slice a n c, .int .i64 many, .int .i64 lo, .int .i64 hi] w fun e w' => e = .returned (.bool (decide ((n : Int) = many) && allB xs lo hi)) ∧ Below w.heap.size w w' := by
  have HB := hide (below_two w (.cells #[.int .i64 lo] 3) (.cells #[.int .i64 hi] 3))
  have HC := hide (beyC_any a n c xs lo hi w.heap.size (w.heap.size + 1) _ (rt.below HB.out) hn (by simp) (by simp))
  clear rt
  by_cases hm : (n : Int) = many
  · have hd : ((n : Int) == many) = true := by simp [hm]
    have HR : Hid ((decide ((n : Int) = many) && allB xs lo hi) = allB xs lo hi) := by show _ = _; simp [hm]
    rw [HR.out]
    clear hm HR
    obtain ⟨r, hr⟩ : ∃ r, Hid (allB xs lo hi = r) := ⟨_, rfl⟩
    rw [hr.out] at HC ⊢
    go_enter Try.func113, Try.ntmps113
    go_wp2_with fail
    refine HC.out.mono ?_
    rintro e w1 ⟨rfl, rfl⟩
    clear HC
    go_wp2_with fail
    go_ret
    exact ⟨ret_bool (by simp), HB.out⟩
  · have hd : ((n : Int) == many) = false := by simp [hm]
    have HR : Hid ((decide ((n : Int) = many) && allB xs lo hi) = false) := by show _ = _; simp [hm]
    rw [HR.out]
    clear hm HR HC
    go_enter Try.func113, Try.ntmps113
    go_wp2_with fail
    go_ret
    exact ⟨rfl, HB.out⟩
end Go.Proofs.Ytajcmamapmeglaa
