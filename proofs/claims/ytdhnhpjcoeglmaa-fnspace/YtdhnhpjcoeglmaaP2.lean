/- Contracts that the proof stands on, one behind the other. -/
import Derived.Test.YtdhnhpjcoeglmaaP1
import Derived.WalkKit
import Derived.ProofKit
import Derived.OpenShut
import Derived.ChangeOld
import Derived.Below
import Derived.OwnWalk
/- Sets of places as bits: placesOf, stepOf and netSteps of the program, for every net in memory. -/
namespace Go.Proofs.Ytdhnhpjcoeglmaa
open Go.RowKit

/-- The bits of a list of places. -/
def maskL (xs : List Int) : Nat := xs.foldl (fun s x => s ||| 2 ^ x.toNat) 0

theorem maskL_snoc (xs : List Int) (x : Int) : maskL (xs ++ [x]) = maskL xs ||| 2 ^ x.toNat := by simp [maskL, List.foldl_append]

theorem maskL_take (xs : List Int) (k : Nat) (x : Int) (h : xs[k]? = some x) : maskL (xs.take (k + 1)) = maskL (xs.take k) ||| 2 ^ x.toNat := by
  rw [List.take_add_one, h]; exact maskL_snoc _ _

/-- Induction from the list's end. -/
theorem snoc_ind {P : List Int → Prop} (h0 : P []) (h1 : ∀ xs x, P xs → P (xs ++ [x])) (xs : List Int) : P xs := by
  have : ∀ ys : List Int, P ys.reverse := by
    intro ys
    induction ys with
    | nil => exact h0
    | cons y r ih => rw [List.reverse_cons]; exact h1 _ _ ih
  have := this xs.reverse
  rwa [List.reverse_reverse] at this

theorem maskL_lt (xs : List Int) (h : ∀ x ∈ xs, x < 16) : maskL xs < 2 ^ 16 := by
  induction xs using snoc_ind with
  | h0 => simp [maskL]
  | h1 xs x ih =>
    rw [maskL_snoc]
    refine Nat.or_lt_two_pow (ih fun y hy => h y (by simp [hy])) ?_
    have := h x (by simp)
    exact Nat.pow_lt_pow_right (by decide) (by omega)

theorem maskL_bit (xs : List Int) (i : Nat) (h : ∀ x ∈ xs, 0 ≤ x) : (maskL xs).testBit i = decide ((i : Int) ∈ xs) := by
  induction xs using snoc_ind with
  | h0 => simp [maskL]
  | h1 xs x ih =>
    rw [maskL_snoc, Nat.testBit_or, ih fun y hy => h y (by simp [hy]), Nat.testBit_two_pow]
    have hx := h x (by simp)
    have : decide (x.toNat = i) = decide ((i : Int) = x) := by
      congr 1; apply propext; constructor <;> intro e <;> omega
    rw [this]
    simp [List.mem_append]

theorem riseB_mem {xs : List Int} {lo hi : Int} (h : riseB xs lo hi = true) : ∀ x ∈ xs, lo ≤ x ∧ x ≤ hi := by
  induction xs generalizing lo with
  | nil => intro x hx; simp at hx
  | cons y r ih =>
    simp [riseB] at h
    intro x hx
    rcases List.mem_cons.mp hx with rfl | hx
    · exact h.1
    · have := ih h.2 x hx; omega

theorem wraps_u16 (n : Int) (h₀ : 0 ≤ n) (h₁ : n < 2 ^ 16) : IntKind.u16.wrap n = n := by
  simp [IntKind.wrap, IntKind.bits, IntKind.signed]; omega

theorem or_u16 (a b : Nat) (ha : a < 2 ^ 16) (hb : b < 2 ^ 16) : bits .or .u16 (a : Int) (b : Int) = ((a ||| b : Nat) : Int) := (bits_nat .u16 16 (by decide) wraps_u16 a b ha hb).2
theorem and_u16 (a b : Nat) (ha : a < 2 ^ 16) (hb : b < 2 ^ 16) : bits .and .u16 (a : Int) (b : Int) = ((a &&& b : Nat) : Int) := (bits_nat .u16 16 (by decide) wraps_u16 a b ha hb).1

/-- What placesOf answers. -/
def setOf (p : Int) (xs : List Int) : Nat := if riseB xs 0 (p - 1) then maskL xs else 0

theorem ret_set {s t : Nat} {a b : Bool} (h : s = t) (hb : a = b) : Ending.returned (.tuple #[.int .u16 (s : Int), .bool a]) = .returned (.tuple #[.int .u16 (t : Int), .bool b]) := by rw [h, hb]

set_option maxHeartbeats 1000000 in
theorem placesOf_any (p : Int) (a : Option Addr) (n ca : Nat) (xs : List Int) (w : World) (ha : Row w a n xs) (hn : n ≤ 1048576) (hp : inB p 1 16 = true) :
    Calls Try.prog 168 #[.int .i64 p, .slice a n ca] w fun e w' => e = .returned (.tuple #[.int .u16 (setOf p xs : Int), .bool (riseB xs 0 (p - 1))]) ∧ w' = w := by
  have hp1 : 1 ≤ p ∧ p ≤ 16 := by simpa [inB] using hp
  obtain ⟨hp2, hp3⟩ := hp1
  go_enter Try.func168, Try.ntmps168
  go_wp2_with fail
  go_loop [6, 7, 12] (fun s l i => ∃ k : Nat, k ≤ n ∧ i = .int .i64 k ∧ s = .int .u16 (maskL (xs.take k) : Int) ∧ l = .int .i64 (nextLo xs k 0) ∧ Hid (riseB (xs.take k) 0 (p - 1) = true)) (fun _ _ i => n - (intOf i).toNat)
  case atStart => exact ⟨0, Nat.zero_le _, rfl, rfl, rfl, rfl⟩
  case round =>
    obtain ⟨k, hk, rfl, rfl, rfl, hu⟩ := hrel
    by_cases hlt : k < n
    · obtain ⟨b1, o1, x, rfl, hl1, hc1, H1⟩ := ha.at hlt
      have HS := hide (riseB_step hu.out H1.out)
      have hge := nextLo_ge hu.out (show k ≤ xs.length by have := ha.1; omega)
      by_cases h1 : x < nextLo xs k 0
      · have HN : Hid (riseB xs 0 (p - 1) = false) := by
          refine riseB_no (k := k + 1) ?_
          rw [HS.out]; simp; intro h2; omega
        have HE : Hid ((0 : Nat) = setOf p xs) := by show 0 = setOf p xs; unfold setOf; rw [HN.out]; rfl
        clear HS ha H1 hu
        generalize nextLo xs k 0 = nl at *
        go_wp2_with fail
        go_ret2
        exact ⟨ret_set HE.out HN.out.symm, rfl⟩
      by_cases h2 : p ≤ x
      · have HN : Hid (riseB xs 0 (p - 1) = false) := by
          refine riseB_no (k := k + 1) ?_
          rw [HS.out]; simp; intro h2; omega
        have HE : Hid ((0 : Nat) = setOf p xs) := by show 0 = setOf p xs; unfold setOf; rw [HN.out]; rfl
        clear HS ha H1 hu
        generalize nextLo xs k 0 = nl at *
        go_wp2_with fail
        go_ret2
        exact ⟨ret_set HE.out HN.out.symm, rfl⟩
      have h3 : 0 ≤ x := by omega
      have h4 : x < 16 := by omega
      have HU : Hid (riseB (xs.take (k + 1)) 0 (p - 1) = true) := by
        show riseB (xs.take (k + 1)) 0 (p - 1) = true
        rw [HS.out]; simp; omega
      have HM : Hid (bits .or .u16 (maskL (xs.take k) : Int) (IntKind.u16.wrap (2 ^ x.toNat)) = (maskL (xs.take (k + 1)) : Int)) := by
        show _ = _
        have hx2 : 2 ^ x.toNat < 2 ^ 16 := Nat.pow_lt_pow_right (by decide) (by omega)
        have hx3 : ((2 : Int) ^ x.toNat) = ((2 ^ x.toNat : Nat) : Int) := by simp
        rw [hx3, wraps_u16 _ (Int.natCast_nonneg _) (by exact_mod_cast hx2), or_u16 _ _ (maskL_lt _ fun y hy => by have := riseB_mem hu.out y hy; omega) hx2, maskL_take xs k x H1.out]
      have HX : Hid (x + 1 = nextLo xs (k + 1) 0) := by
        show _ = _
        simp only [nextLo, Nat.add_one_ne_zero, if_false, Nat.add_sub_cancel]
        rw [List.getD_eq_getElem?_getD, H1.out]; rfl
      clear HS ha H1 hu
      generalize nextLo xs k 0 = nl at *
      generalize maskL (xs.take k) = mm at *
      go_wp2_with fail
      go_round
      case rel => exact ⟨k + 1, by omega, by go_num, by rw [HM.out], by rw [HX.out], HU⟩
      case measure => simp [intOf]; omega
    · have hk' : k = n := by omega
      subst hk'
      have HA := hide (riseB_done hu.out ha.1)
      have HE : Hid (maskL (xs.take k) = setOf p xs) := by
        show maskL (xs.take k) = setOf p xs
        unfold setOf; rw [HA.out, List.take_of_length_le (by have := ha.1; omega)]; rfl
      generalize nextLo xs k 0 = nl at *
      generalize maskL (xs.take k) = mm at *
      go_wp2_with fail
      go_ret2
      exact ⟨ret_set HE.out HA.out.symm, rfl⟩

theorem maskL_zero {xs : List Int} (h : ∀ x ∈ xs, 0 ≤ x) : maskL xs = 0 ↔ xs = [] := by
  constructor
  · intro e
    cases xs with
    | nil => rfl
    | cons x r =>
      have hb := maskL_bit (x :: r) x.toNat h
      rw [e, Nat.zero_testBit] at hb
      have hx := h x (by simp)
      simp at hb; omega
  · intro e; rw [e]; rfl

/-- Whether the three lists are those of a transition. -/
def tri3Ok (p : Int) (x0 x1 x2 : List Int) : Bool := !x0.isEmpty && riseB x0 0 (p - 1) && riseB x1 0 (p - 1) && riseB x2 0 (p - 1)

def bit3 (b : Bool) (xs : List Int) : Int := if b then (maskL xs : Int) else 0

/-- What stepOf answers. -/
def StepEnd (p : Int) (x0 x1 x2 : List Int) (w : World) (e : Ending) (w' : World) : Prop :=
  e = .returned (.tuple #[.agg #[.int .u16 (bit3 (tri3Ok p x0 x1 x2) x0), .int .u16 (bit3 (tri3Ok p x0 x1 x2) x1), .int .u16 (bit3 (tri3Ok p x0 x1 x2) x2)], .bool (tri3Ok p x0 x1 x2)]) ∧ Below w.heap.size w w'

theorem stepEnd_no {p : Int} {x0 x1 x2 : List Int} {w w' : World} (h : tri3Ok p x0 x1 x2 = false) (hb : Below w.heap.size w w') : StepEnd p x0 x1 x2 w (.returned (.tuple #[.agg #[.int .u16 0, .int .u16 0, .int .u16 0], .bool false])) w' := by
  refine ⟨?_, hb⟩; rw [h]; rfl

theorem stepEnd_yes {p : Int} {x0 x1 x2 : List Int} {w w' : World} {s0 s1 s2 : Nat} (h : tri3Ok p x0 x1 x2 = true) (h0 : maskL x0 = s0) (h1 : maskL x1 = s1) (h2 : maskL x2 = s2) (hb : Below w.heap.size w w') : StepEnd p x0 x1 x2 w (.returned (.tuple #[.agg #[.int .u16 (s0 : Int), .int .u16 (s1 : Int), .int .u16 (s2 : Int)], .bool true])) w' := by
  refine ⟨?_, hb⟩; rw [h, ← h0, ← h1, ← h2]; rfl

set_option maxHeartbeats 1000000 in
theorem stepOf_any (p : Int) (a0 a1 a2 : Option Addr) (n0 n1 n2 c0 c1 c2 : Nat) (x0 x1 x2 : List Int) (w : World) (r0 : Row w a0 n0 x0) (r1 : Row w a1 n1 x1) (r2 : Row w a2 n2 x2) (h0 : n0 ≤ 1048576) (h1 : n1 ≤ 1048576) (h2 : n2 ≤ 1048576) (hp : inB p 1 16 = true) :
    Calls Try.prog 141 #[.int .i64 p, .agg #[.slice a0 n0 c0, .slice a1 n1 c1, .slice a2 n2 c2]] w fun e w' => StepEnd p x0 x1 x2 w e w' := by
  have R0 := hide r0
  have R1 := hide r1
  have R2 := hide r2
  clear r0 r1 r2
  go_enter Try.func141, Try.ntmps141
  go_wp2_with fail
  refine (placesOf_any _ _ _ _ x0 _ ((R0.out.alloc _).alloc _) h0 hp).mono ?_
  rintro e w' ⟨rfl, rfl⟩
  obtain ⟨b0, hb0⟩ : ∃ b, Hid (riseB x0 0 (p - 1) = b) := ⟨_, rfl⟩
  obtain ⟨s0, hs0⟩ : ∃ b, Hid (setOf p x0 = b) := ⟨_, rfl⟩
  rw [hb0.out, hs0.out]
  go_wp2_with fail
  refine (placesOf_any _ _ _ _ x1 _ ((R1.out.alloc _).alloc _) h1 hp).mono ?_
  rintro e w' ⟨rfl, rfl⟩
  obtain ⟨b1, hb1⟩ : ∃ b, Hid (riseB x1 0 (p - 1) = b) := ⟨_, rfl⟩
  obtain ⟨s1, hs1⟩ : ∃ b, Hid (setOf p x1 = b) := ⟨_, rfl⟩
  rw [hb1.out, hs1.out]
  go_wp2_with fail
  refine (placesOf_any _ _ _ _ x2 _ ((R2.out.alloc _).alloc _) h2 hp).mono ?_
  rintro e w' ⟨rfl, rfl⟩
  obtain ⟨b2, hb2⟩ : ∃ b, Hid (riseB x2 0 (p - 1) = b) := ⟨_, rfl⟩
  obtain ⟨s2, hs2⟩ : ∃ b, Hid (setOf p x2 = b) := ⟨_, rfl⟩
  rw [hb2.out, hs2.out]
  cases b0
  · have HN := hide (show tri3Ok p x0 x1 x2 = false by unfold tri3Ok; rw [hb0.out]; simp)
    go_wp2_with fail
    refine bodyPost_ret (v := .tuple #[.agg #[.int .u16 0, .int .u16 0, .int .u16 0], .bool false]) (by simp [results, Try.results141, go_sem]) rfl ?_
    exact stepEnd_no HN.out (below_two _ _ _)
  cases b1
  · have HN := hide (show tri3Ok p x0 x1 x2 = false by unfold tri3Ok; rw [hb1.out]; simp)
    go_wp2_with fail
    refine bodyPost_ret (v := .tuple #[.agg #[.int .u16 0, .int .u16 0, .int .u16 0], .bool false]) (by simp [results, Try.results141, go_sem]) rfl ?_
    exact stepEnd_no HN.out (below_two _ _ _)
  cases b2
  · have HN := hide (show tri3Ok p x0 x1 x2 = false by unfold tri3Ok; rw [hb2.out]; simp)
    go_wp2_with fail
    refine bodyPost_ret (v := .tuple #[.agg #[.int .u16 0, .int .u16 0, .int .u16 0], .bool false]) (by simp [results, Try.results141, go_sem]) rfl ?_
    exact stepEnd_no HN.out (below_two _ _ _)
  have HS0 : Hid (maskL x0 = s0) := by show _ = _; rw [← hs0.out]; unfold setOf; rw [hb0.out]; rfl
  have HS1 : Hid (maskL x1 = s1) := by show _ = _; rw [← hs1.out]; unfold setOf; rw [hb1.out]; rfl
  have HS2 : Hid (maskL x2 = s2) := by show _ = _; rw [← hs2.out]; unfold setOf; rw [hb2.out]; rfl
  have hz := maskL_zero (fun x hx => (riseB_mem hb0.out x hx).1)
  rw [HS0.out] at hz
  by_cases hs : s0 = 0
  · have HN := hide (show tri3Ok p x0 x1 x2 = false by unfold tri3Ok; rw [hz.mp hs]; rfl)
    clear hz
    subst hs
    go_wp2_with fail
    refine bodyPost_ret (v := .tuple #[.agg #[.int .u16 0, .int .u16 0, .int .u16 0], .bool false]) (by simp [results, Try.results141, go_sem]) rfl ?_
    exact stepEnd_no HN.out (below_two _ _ _)
  have HY := hide (show tri3Ok p x0 x1 x2 = true by
    unfold tri3Ok; rw [hb0.out, hb1.out, hb2.out]
    have : x0 ≠ [] := fun e => hs (hz.mpr e)
    cases x0 <;> simp_all)
  have hs' : (s0 : Int) ≠ 0 := by omega
  clear hz hs
  go_wp2_with fail
  refine bodyPost_ret (v := .tuple #[.agg #[.int .u16 (s0 : Int), .int .u16 (s1 : Int), .int .u16 (s2 : Int)], .bool true]) (by simp [results, Try.results141, go_sem]) rfl ?_
  exact stepEnd_yes HY.out HS0.out HS1.out HS2.out (below_two _ _ _)
end Go.Proofs.Ytdhnhpjcoeglmaa


/- What netSteps and the program's GoodNet answer, for every net in memory. -/
namespace Go.Proofs.Ytdhnhpjcoeglmaa
open Go.RowKit

/-- The first k of n cells of the block B are the bits of the first k lists. -/
def PartS (w : World) (B n k : Nat) (L : List (List Int)) : Prop :=
  ∃ C : Array Value, w.heap[B]? = some (.cells C 88 (0, 0)) ∧ C.size = n ∧ ∀ j, j < k → C[j]? = some (.int .u16 (maskL (L.getD j []) : Int))

theorem PartS.grow {w w' : World} {B n k : Nat} {L : List (List Int)} (h : PartS w B n k L) (hb : Below w.heap.size w w') : PartS w' B n k L := by
  obtain ⟨C, h1, h2, h3⟩ := h
  exact ⟨C, (hb.block B (Array.getElem?_eq_some_iff.mp h1).1).trans h1, h2, h3⟩

theorem PartS.set_other {w : World} {B n k g : Nat} {L : List (List Int)} (h : PartS w B n k L) (hg : B ≠ g) (o : Nat) (v : Value) : PartS (w.setCell ⟨g, o, none⟩ v) B n k L := by
  obtain ⟨C, h1, h2, h3⟩ := h
  exact ⟨C, (Below.heap_setCell _ _ _ _ hg).trans h1, h2, h3⟩

theorem PartS.step {w : World} {B n k : Nat} {L : List (List Int)} (h : PartS w B (3 * n) (3 * k) L) (hk : k < n) {s0 s1 s2 : Int}
    (e0 : (maskL (L.getD (3 * k) []) : Int) = s0) (e1 : (maskL (L.getD (3 * k + 1) []) : Int) = s1) (e2 : (maskL (L.getD (3 * k + 2) []) : Int) = s2) :
    PartS (w.setCells B (k * 3) [.int .u16 s0, .int .u16 s1, .int .u16 s2]) B (3 * n) (3 * (k + 1)) L := by
  obtain ⟨C, h1, h2, h3⟩ := h
  refine ⟨_, heap_set3_same h1 _ _ _, by simp [h2], fun j hj => ?_⟩
  by_cases hj3 : j < 3 * k
  · rw [Array.getElem?_setIfInBounds_ne (by omega), Array.getElem?_setIfInBounds_ne (by omega), Array.getElem?_setIfInBounds_ne (by omega)]; exact h3 j hj3
  · obtain rfl | rfl | rfl : j = 3 * k ∨ j = 3 * k + 1 ∨ j = 3 * k + 2 := by omega
    · rw [Array.getElem?_setIfInBounds_ne (by omega), Array.getElem?_setIfInBounds_ne (by omega), Array.getElem?_setIfInBounds, if_pos (by omega), if_pos (by omega), e0]
    · rw [Array.getElem?_setIfInBounds_ne (by omega), Array.getElem?_setIfInBounds, if_pos (by omega), if_pos (by simp; omega), e1]
    · rw [Array.getElem?_setIfInBounds, if_pos (by omega), if_pos (by simp; omega), e2]

theorem Try.info88 : (Try.prog.info? 88).map (fun i => (i.zero, i.size, i.bytes)) = some (some (.agg #[.int .u16 0, .int .u16 0, .int .u16 0]), 3, 6) := by kernel_rfl
theorem Try.size88 : (Try.prog.info? 88).map (·.size) = some 3 := by kernel_rfl

/-- How netSteps ends. -/
def NetEnd (g : Bool) (p : Int) (n : Nat) (L : List (List Int)) (w : World) (e : Ending) (w' : World) : Prop :=
  ∃ p' a m c, e = .returned (.tuple #[.agg #[.int .i64 p', .slice a m c], .bool g]) ∧ Hid (g = true → p' = p ∧ m = n ∧ c = n ∧ ∃ B, a = some ⟨B, 0, none⟩ ∧ w.heap.size ≤ B ∧ PartS w' B (3 * n) (3 * n) L) ∧ Below w.heap.size w w'

/-- What the loop of netSteps keeps in mind. -/
structure NsInv (w wr : World) (p : Int) (a : Option Addr) (n c k : Nat) (L : List (List Int)) : Prop where
  par : wr.heap[w.heap.size]? = some (.cells #[.int .i64 p, .slice a n c] 26 (0, 0))
  res : wr.heap[w.heap.size + 1]? = some (.cells #[.int .i64 0, .slice none 0 0] 82 (0, 0))
  part : PartS wr (w.heap.size + 1 + 1) (3 * n) (3 * k) L
  bel : Below w.heap.size w wr

theorem NsInv.grow {w wr v : World} {p : Int} {a : Option Addr} {n c k : Nat} {L : List (List Int)} (h : NsInv w wr p a n c k L) (hb : Below wr.heap.size wr v) : NsInv w v p a n c k L :=
  ⟨(hb.block _ (Array.getElem?_eq_some_iff.mp h.par).1).trans h.par, (hb.block _ (Array.getElem?_eq_some_iff.mp h.res).1).trans h.res, h.part.grow hb, h.bel.trans (hb.mono h.bel.size)⟩

theorem NsInv.step {w wr : World} {p : Int} {a : Option Addr} {n c k : Nat} {L : List (List Int)} (h : NsInv w wr p a n c k L) (hk : k < n) {s0 s1 s2 : Int}
    (e0 : (maskL (L.getD (3 * k) []) : Int) = s0) (e1 : (maskL (L.getD (3 * k + 1) []) : Int) = s1) (e2 : (maskL (L.getD (3 * k + 2) []) : Int) = s2) :
    NsInv w (wr.setCells (w.heap.size + 1 + 1) (k * 3) [.int .u16 s0, .int .u16 s1, .int .u16 s2]) p a n c (k + 1) L :=
  ⟨(heap_set3_other _ _ _ _ _ _ _ (by omega)).trans h.par, (heap_set3_other _ _ _ _ _ _ _ (by omega)).trans h.res, h.part.step hk e0 e1 e2, below_set3 h.bel (by omega) _ _ _ _⟩

theorem NsInv.size {w wr : World} {p : Int} {a : Option Addr} {n c k : Nat} {L : List (List Int)} (h : NsInv w wr p a n c k L) : w.heap.size + 1 + 1 < wr.heap.size := by
  obtain ⟨C, h1, _⟩ := h.part
  exact (Array.getElem?_eq_some_iff.mp h1).1

theorem netEnd_no {p : Int} {n : Nat} {L : List (List Int)} {w w' : World} (h : netOk p n L = false) (hb : Below w.heap.size w w') : NetEnd (netOk p n L) p n L w (.returned (.tuple #[.agg #[.int .i64 0, .slice none 0 0], .bool false])) w' :=
  ⟨_, _, _, _, by rw [h], by rw [h]; intro e; simp at e, hb⟩

theorem triOk_eq (p : Int) (L : List (List Int)) (i : Nat) : triOk p L i = tri3Ok p (L.getD (3 * i) []) (L.getD (3 * i + 1) []) (L.getD (3 * i + 2) []) := rfl

set_option maxHeartbeats 4000000 in
theorem netSteps_any (p : Int) (a : Option Addr) (n c : Nat) (L : List (List Int)) (w : World) (h : Lists w a (3 * n) L) (hs : sizeN n L ≤ 1048576) :
    Calls Try.prog 78 #[.agg #[.int .i64 p, .slice a n c]] w fun e w' => NetEnd (netOk p n L) p n L w e w' := by
  by_cases hp : inB p 1 16 = true
  · by_cases hn : n ≤ 24
    · have hmk := run_make_many (P := Try.prog) 80 88 _ 3 6 Try.underlying80 Try.info88 .i64 .i64 n (by omega) (by omega)
      simp only [Value.cells] at hmk
      have HL := hide h
      clear h
      go_enter Try.func78, Try.ntmps78
      go_wp2_with (go_at_call 140; refine (goodPlaces_any _ _).mono ?_; rintro e w' ⟨rfl, rfl⟩)
      clear hmk
      go_loopw [27] (fun i wr => ∃ k : Nat, k ≤ n ∧ i = .int .i64 k ∧ Hid ((List.range k).all (triOk p L) = true) ∧ Hid (NsInv w wr p a n c k L)) (fun i _ => n - (intOf i).toNat)
      case atStart =>
        refine ⟨0, Nat.zero_le _, rfl, rfl, ?_, ?_, ⟨madeCells #[.int .u16 0, .int .u16 0, .int .u16 0] (n * 3), ?_, ?_, fun j hj => absurd hj (by omega)⟩, ?_⟩
        · rw [heap_al_old _ _ _ (by simp; omega), heap_al_old _ _ _ (by simp)]; exact heap_alloc_new _ _
        · rw [heap_al_old _ _ _ (by simp)]
          have := heap_alloc_new (w.alloc (.cells #[.int .i64 p, .slice a n c] 26)) (.cells #[.int .i64 0, .slice none 0 0] 82)
          simpa using this
        · have := heap_alloc_new ((w.alloc (.cells #[.int .i64 p, .slice a n c] 26)).alloc (.cells #[.int .i64 0, .slice none 0 0] 82)) (.cells (madeCells #[.int .u16 0, .int .u16 0, .int .u16 0] (n * 3)) 88)
          simpa using this
        · rw [size_madeCells]; omega
        · exact ((below_al w _).alloc (by simp) _).alloc (by simp; omega) _
      case round =>
        obtain ⟨k, hk, rfl, hu, hin⟩ := hrel
        have hsz := hin.out.size
        have hpw : w.heap.size < wr.heap.size := by omega
        have hcp := cell_of_row wr w.heap.size 0 _ _ _ hin.out.par
        simp at hcp
        have r10 := cell_of_row wr (w.heap.size + 1) 0 _ _ _ hin.out.res
        have r11 := cell_of_row wr (w.heap.size + 1) 1 _ _ _ hin.out.res
        simp at r10 r11
        have f10 := frozen_of_row wr (w.heap.size + 1) 0 _ _ hin.out.res
        have f11 := frozen_of_row wr (w.heap.size + 1) 1 _ _ hin.out.res
        by_cases hlt : k < n
        · obtain ⟨b, off, a0, n0, c0, a1, n1, c1, a2, n2, c2, rfl, hb, hr, m0, m1, m2, r0, r1, r2⟩ := (HL.out.below hin.out.bel).tri hlt
          obtain ⟨hc0, hc1, hc2⟩ := rangeAt_cells3 hr
          have hl0 := len_le L (3 * k)
          have hl1 := len_le L (3 * k + 1)
          have hl2 := len_le L (3 * k + 2)
          have hs' : n + sizeL L ≤ 1048576 := hs
          obtain ⟨x0, hx0⟩ : ∃ x, Hid (L.getD (3 * k) [] = x) := ⟨_, rfl⟩
          obtain ⟨x1, hx1⟩ : ∃ x, Hid (L.getD (3 * k + 1) [] = x) := ⟨_, rfl⟩
          obtain ⟨x2, hx2⟩ : ∃ x, Hid (L.getD (3 * k + 2) [] = x) := ⟨_, rfl⟩
          rw [hx0.out] at r0 hl0
          rw [hx1.out] at r1 hl1
          rw [hx2.out] at r2 hl2
          have q0 : n0 ≤ 1048576 := by have := r0.1; omega
          have q1 : n1 ≤ 1048576 := by have := r1.1; omega
          have q2 : n2 ≤ 1048576 := by have := r2.1; omega
          have HT := hide (stepOf_any p a0 a1 a2 n0 n1 n2 c0 c1 c2 x0 x1 x2 _ (r0.alloc (.cells #[.slice a0 n0 c0, .slice a1 n1 c1, .slice a2 n2 c2] 78)) (r1.alloc _) (r2.alloc _) q0 q1 q2 hp)
          clear hr r0 r1 r2 hl0 hl1 hl2 hs' m0 m1 m2 q0 q1 q2
          go_wp2_with fail
          refine HT.out.mono ?_
          rintro e w2 ⟨rfl, hb2⟩
          have HI2 := hide ((hin.out.grow (below_al wr (.cells #[.slice a0 n0 c0, .slice a1 n1 c1, .slice a2 n2 c2] 78))).grow hb2)
          have hTO : Hid (triOk p L k = tri3Ok p x0 x1 x2) := by show _ = _; rw [triOk_eq, hx0.out, hx1.out, hx2.out]
          have h2s := HI2.out.size
          have r10' := cell_of_row w2 (w.heap.size + 1) 0 _ _ _ HI2.out.res
          have r11' := cell_of_row w2 (w.heap.size + 1) 1 _ _ _ HI2.out.res
          simp at r10' r11'
          have f10' := frozen_of_row w2 (w.heap.size + 1) 0 _ _ HI2.out.res
          have f11' := frozen_of_row w2 (w.heap.size + 1) 1 _ _ HI2.out.res
          have hp1' : w.heap.size + 1 < w2.heap.size := by omega
          clear HT hb2 hin r10 r11 f10 f11 hcp hc0 hc1 hc2 hpw hsz
          by_cases g : tri3Ok p x0 x1 x2 = true
          rotate_left
          · have g' : tri3Ok p x0 x1 x2 = false := by simpa using g
            have HN : Hid (netOk p n L = false) := netOk_no hlt (hTO.out.trans g')
            rw [g', show bit3 false x0 = 0 from rfl, show bit3 false x1 = 0 from rfl, show bit3 false x2 = 0 from rfl]
            have HB := hide (HI2.out.bel)
            clear g g' HI2 hx0 hx1 hx2 hTO hu HL
            go_wp2_with fail
            refine bodyPost_ret (v := .tuple #[.agg #[.int .i64 0, .slice none 0 0], .bool false]) (by simp [results, Try.results78, go_sem, r10', r11', hp1']) rfl ?_
            exact netEnd_no HN.out (((HB.out.setCell (by simp) _).setCell (by simp) _).alloc (by have := HB.out.size; simp [World.setCell]; omega) _)
          have HU : Hid ((List.range (k + 1)).all (triOk p L) = true) := all_range_succ hu.out (hTO.out.trans g)
          obtain ⟨s0, hs0⟩ : ∃ s, Hid ((maskL x0 : Int) = s) := ⟨_, rfl⟩
          obtain ⟨s1, hs1⟩ : ∃ s, Hid ((maskL x1 : Int) = s) := ⟨_, rfl⟩
          obtain ⟨s2, hs2⟩ : ∃ s, Hid ((maskL x2 : Int) = s) := ⟨_, rfl⟩
          rw [g, show bit3 true x0 = s0 from hs0.out, show bit3 true x1 = s1 from hs1.out, show bit3 true x2 = s2 from hs2.out]
          have HI3 := hide (HI2.out.grow (below_al w2 (.cells #[.int .u16 s0, .int .u16 s1, .int .u16 s2] 88)))
          have HI4 := hide (HI3.out.step (s0 := s0) (s1 := s1) (s2 := s2) hlt (by rw [hx0.out]; exact hs0.out) (by rw [hx1.out]; exact hs1.out) (by rw [hx2.out]; exact hs2.out))
          have HTH : Hid ((w2.alloc (.cells #[.int .u16 s0, .int .u16 s1, .int .u16 s2] 88)).there (w.heap.size + 1 + 1) (k * 3) 3) := by
            obtain ⟨C, h1, h2, _⟩ := HI3.out.part
            exact there_of_row h1 (by omega)
          clear g hTO hu HI2 HI3 hx0 hx1 hx2 hs0 hs1 hs2 HL
          go_wp2_with (refine wpList_store3 rfl 88 (.tmp 45) (.tmp 44) rfl _ _ _ _ _ rfl rfl HTH.out Try.size88 rfl rfl rfl ?_)
          go_roundw
          case rel => exact ⟨k + 1, by omega, by go_num, HU, HI4⟩
          case measure => simp [intOf]; omega
        · have hk' : k = n := by omega
          subst hk'
          have HN : Hid (netOk p k L = true) := netOk_yes hp hn hu.out
          go_wp2_with fail
          refine bodyPost_ret (v := .tuple #[.agg #[.int .i64 p, .slice (some ⟨w.heap.size + 1 + 1, 0, none⟩) k k], .bool true]) (by simp [results, Try.results78, go_sem, r10, r11]) rfl ?_
          exact ⟨_, _, _, _, by rw [HN.out], fun _ => ⟨rfl, rfl, rfl, _, rfl, by omega, (hin.out.part.set_other (by omega) _ _).set_other (by omega) _ _⟩, (hin.out.bel.setCell (by simp) _).setCell (by simp) _⟩
    · have HN : Hid (netOk p n L = false) := by show netOk p n L = false; unfold netOk; simp [hn]
      have hn' : (24 : Int) < (n : Int) := by omega
      clear h
      go_enter Try.func78, Try.ntmps78
      go_wp2_with (go_at_call 140; refine (goodPlaces_any _ _).mono ?_; rintro e w' ⟨rfl, rfl⟩)
      refine bodyPost_ret (v := .tuple #[.agg #[.int .i64 0, .slice none 0 0], .bool false]) (by simp [results, Try.results78, go_sem]) rfl ?_
      exact netEnd_no HN.out (below_two _ _ _)
  · have hp' : inB p 1 16 = false := by simpa using hp
    have HN : Hid (netOk p n L = false) := by show netOk p n L = false; unfold netOk; simp [hp']
    clear hp h
    go_enter Try.func78, Try.ntmps78
    go_wp2_with (go_at_call 140; refine (goodPlaces_any _ _).mono ?_; rintro e w' ⟨rfl, rfl⟩)
    refine bodyPost_ret (v := .tuple #[.agg #[.int .i64 0, .slice none 0 0], .bool false]) (by simp [results, Try.results78, go_sem]) rfl ?_
    exact netEnd_no HN.out (below_two _ _ _)

set_option maxHeartbeats 400000 in
theorem goodNetI_any (p : Int) (a : Option Addr) (n c : Nat) (L : List (List Int)) (w : World) (h : Lists w a (3 * n) L) (hs : sizeN n L ≤ 1048576) :
    Calls Try.prog 64 #[.agg #[.int .i64 p, .slice a n c]] w fun e w' => e = .returned (.bool (netOk p n L)) ∧ Below w.heap.size w w' := by
  obtain ⟨g, hg⟩ : ∃ g, Hid (netOk p n L = g) := ⟨_, rfl⟩
  have HT := hide (netSteps_any p a n c L (w.alloc (.cells #[.int .i64 p, .slice a n c] 26)) (h.below (below_al _ _)) hs)
  rw [hg.out] at HT ⊢
  clear h
  go_enter Try.func64, Try.ntmps64
  go_wp2_with fail
  refine HT.out.mono ?_
  rintro e w2 ⟨p', a', m, c', rfl, hx, hb⟩
  have HB := hide ((below_al w (.cells #[.int .i64 p, .slice a n c] 26)).trans (hb.mono (by simp)))
  clear hb HT hx
  go_wp2_with fail
  go_ret
  exact ⟨rfl, HB.out.alloc HB.out.size _⟩
end Go.Proofs.Ytdhnhpjcoeglmaa


/- The specification's small functions on lists: l1Has, l2Meet and l1Same. -/
namespace Go.Proofs.Ytdhnhpjcoeglmaa
open Go.RowKit

def hasB (xs : List Int) (x : Int) : Bool := xs.contains x

theorem hasB_take {xs : List Int} {k : Nat} {x y : Int} (h : hasB (xs.take k) y = false) (hx : xs[k]? = some x) (hne : ¬ x = y) : hasB (xs.take (k + 1)) y = false := by
  unfold hasB at *
  rw [List.take_add_one, hx]
  simp at h ⊢
  exact ⟨h, fun e => hne e.symm⟩

theorem hasB_yes {xs : List Int} {k : Nat} {x : Int} (hx : xs[k]? = some x) : hasB xs x = true := by
  unfold hasB
  simpa using List.mem_of_getElem? hx

set_option maxHeartbeats 400000 in
theorem has_any (a : Option Addr) (n ca : Nat) (xs : List Int) (y : Int) (w : World) (ha : Row w a n xs) (hn : n ≤ 1048576) :
    Calls Try.prog 139 #[.slice a n ca, .int .i64 y] w fun e w' => e = .returned (.bool (hasB xs y)) ∧ w' = w := by
  go_enter Try.func139, Try.ntmps139
  go_wp2_with fail
  go_loop [9] (fun i => ∃ k : Nat, k ≤ n ∧ i = .int .i64 k ∧ Hid (hasB (xs.take k) y = false)) (fun i => n - (intOf i).toNat)
  case atStart => exact ⟨0, Nat.zero_le _, rfl, rfl⟩
  case round =>
    obtain ⟨k, hk, rfl, hu⟩ := hrel
    by_cases hlt : k < n
    · obtain ⟨b1, o1, x, rfl, hl1, hc1, H1⟩ := ha.at hlt
      clear ha
      by_cases he : x = y
      · subst he
        have HY := hide (hasB_yes H1.out)
        have hd : (x == x) = true := by simp
        clear H1 hu
        go_wp2_with fail
        go_ret
        exact ⟨ret_bool HY.out.symm, rfl⟩
      · have HU := hide (hasB_take hu.out H1.out he)
        have hd : (x == y) = false := by simp [he]
        clear H1 hu he
        go_wp2_with fail
        go_round
        case rel => exact ⟨k + 1, by omega, by go_num, HU⟩
        case measure => simp [intOf]; omega
    · have hk' : k = n := by omega
      subst hk'
      have HA : Hid (hasB xs y = false) := by have := hu.out; rwa [List.take_of_length_le (by have := ha.1; omega)] at this
      go_wp2_with fail
      go_ret
      exact ⟨ret_bool HA.out.symm, rfl⟩

def meetB (xs ys : List Int) : Bool := xs.any (hasB ys)

theorem meetB_take {xs ys : List Int} {k : Nat} {x : Int} (h : meetB (xs.take k) ys = false) (hx : xs[k]? = some x) (hne : hasB ys x = false) : meetB (xs.take (k + 1)) ys = false := by
  unfold meetB at *
  rw [List.take_add_one, hx, List.any_append, h]
  simp [hne]

theorem meetB_yes {xs ys : List Int} {k : Nat} {x : Int} (hx : xs[k]? = some x) (hy : hasB ys x = true) : meetB xs ys = true := by
  unfold meetB
  rw [List.any_eq_true]
  exact ⟨x, List.mem_of_getElem? hx, hy⟩

set_option maxHeartbeats 400000 in
theorem meet_any (a b : Option Addr) (n m ca cb : Nat) (xs ys : List Int) (w : World) (ha : Row w a n xs) (hb : Row w b m ys) (hn : n ≤ 1048576) (hm : m ≤ 1048576) :
    Calls Try.prog 80 #[.slice a n ca, .slice b m cb] w fun e w' => e = .returned (.bool (meetB xs ys)) ∧ w' = w := by
  have HH := hide (fun y => has_any b m cb ys y w hb hm)
  clear hb
  go_enter Try.func80, Try.ntmps80
  go_wp2_with fail
  go_loop [9] (fun i => ∃ k : Nat, k ≤ n ∧ i = .int .i64 k ∧ Hid (meetB (xs.take k) ys = false)) (fun i => n - (intOf i).toNat)
  case atStart => exact ⟨0, Nat.zero_le _, rfl, rfl⟩
  case round =>
    obtain ⟨k, hk, rfl, hu⟩ := hrel
    by_cases hlt : k < n
    · obtain ⟨b1, o1, x, rfl, hl1, hc1, H1⟩ := ha.at hlt
      clear ha
      by_cases he : hasB ys x = true
      · have HY := hide (meetB_yes H1.out he)
        clear H1 hu
        go_wp2_with (go_at_call 139; refine (HH.out _).mono ?_; rintro e w' ⟨rfl, rfl⟩)
        go_ret
        exact ⟨ret_bool HY.out.symm, rfl⟩
      · have he' : hasB ys x = false := by simpa using he
        have HU := hide (meetB_take hu.out H1.out he')
        clear H1 hu he
        go_wp2_with (go_at_call 139; refine (HH.out _).mono ?_; rintro e w' ⟨rfl, rfl⟩)
        go_round
        case rel => exact ⟨k + 1, by omega, by go_num, HU⟩
        case measure => simp [intOf]; omega
    · have hk' : k = n := by omega
      subst hk'
      have HA : Hid (meetB xs ys = false) := by have := hu.out; rwa [List.take_of_length_le (by have := ha.1; omega)] at this
      go_wp2_with fail
      go_ret
      exact ⟨ret_bool HA.out.symm, rfl⟩

set_option maxHeartbeats 400000 in
theorem same_any (a b : Option Addr) (n m ca cb : Nat) (xs ys : List Int) (w : World) (ha : Row w a n xs) (hb : Row w b m ys) (hn : n ≤ 1048576) :
    Calls Try.prog 81 #[.slice a n ca, .slice b m cb] w fun e w' => e = .returned (.bool (sameB xs ys)) ∧ ∃ q, w' = w.drewN q := by
  by_cases hnm : n = m
  · subst hnm
    have hne : ((n : Int) != (n : Int)) = false := by simp
    go_enter Try.func81, Try.ntmps81
    go_wp2
    clear hne
    go_loopw [13] (fun i wr => ∃ k : Nat, k ≤ n ∧ i = .int .i64 k ∧ Upto xs ys k ∧ ∃ q, wr = w.drewN q) (fun i _ => n - (intOf i).toNat)
    case atStart => exact ⟨0, Nat.zero_le _, rfl, rfl, 0, rfl⟩
    case round =>
      obtain ⟨k, hk, rfl, hu, q, rfl⟩ := hrel
      by_cases hlt : k < n
      · obtain ⟨b1, o1, x, rfl, hl1, hc1, H1⟩ := ha.at hlt
        obtain ⟨b2, o2, y, rfl, hl2, hc2, H2⟩ := hb.at hlt
        have hi1 : ((k : Int)) < ((n : Int)) := by omega
        clear ha hb
        by_cases he : x = y
        · subst he
          have HU := hu.step H1 H2
          clear hu H1 H2
          go_wp2
          go_quiet (fail)
          go_wp2
          go_roundw
          case rel => exact ⟨k + 1, by omega, by go_num, HU, _, rfl⟩
          case measure => simp [intOf]; omega
        · have HS := sameB_ne H1 H2 he
          have hd : (x != y) = true := by simp [he]
          clear hu H1 H2 he
          go_wp2
          go_quiet (fail)
          go_wp2
          go_ret
          exact ⟨ret_bool HS.symm, _, drewN_two w _ _⟩
      · have hx := ha.1
        have hy := hb.1
        have HS := hu.done (by omega) (by omega)
        go_wp2
        go_ret
        exact ⟨ret_bool HS.symm, _, rfl⟩
  · have hx := ha.1
    have hy := hb.1
    have HS := sameB_len (show xs.length ≠ ys.length by omega)
    have hne : ((n : Int) != (m : Int)) = true := by simp; omega
    clear ha hb hx hy
    go_enter Try.func81, Try.ntmps81
    go_wp2
    go_ret
    exact ⟨ret_bool HS.symm, 0, rfl⟩
end Go.Proofs.Ytdhnhpjcoeglmaa


/- What markIntS writes, what heldIntS answers, and what the list of an array is, for slices that lie from the head of a block of their own; nothing else that was there is written. -/
namespace Go.Proofs.Ytdhnhpjcoeglmaa
open Go.RowKit

/-- Nothing but the block b has turned, and no block is new. -/
structure Only (b : Nat) (w w' : World) : Prop where
  os : w'.os = w.os
  tape : w'.tape = w.tape
  output : w'.output = w.output
  size : w'.heap.size = w.heap.size
  block : ∀ k, k ≠ b → w'.heap[k]? = w.heap[k]?

theorem Only.refl (b : Nat) (w : World) : Only b w w := ⟨rfl, rfl, rfl, rfl, fun _ _ => rfl⟩
theorem Only.below {b B : Nat} {w w' : World} (h : Only b w w') (hb : B ≤ b) : Below B w w' := ⟨h.os, h.tape, h.output, Nat.le_of_eq h.size.symm, fun k hk => h.block k (by omega)⟩
theorem Only.setCell {b : Nat} {w w' : World} (h : Only b w w') (o : Nat) (v : Value) : Only b w (w'.setCell ⟨b, o, none⟩ v) :=
  ⟨h.os, h.tape, h.output, by rw [← h.size]; simp [World.setCell], fun k hk => (Below.heap_setCell _ _ _ _ hk).trans (h.block k hk)⟩

/-- A slice that lies from the head of the block b, as long as it is; or an empty one. -/
def Blk (w : World) (a : Option Addr) (b n : Nat) (xs : List Int) : Prop :=
  xs.length = n ∧ (n = 0 ∨ (a = some ⟨b, 0, none⟩ ∧ w.heap[b]? = some (.cells (cellsOf xs) 3 (0, 0))))

theorem Blk.row {w : World} {a : Option Addr} {b n : Nat} {xs : List Int} (h : Blk w a b n xs) : Row w a n xs := by
  rcases h.2 with h0 | ⟨e, hh⟩
  · exact ⟨h.1, .inl h0⟩
  · exact Own.row (B := 0) ⟨h.1, b, e, Nat.zero_le _, hh⟩

theorem Blk.below {w w' : World} {a : Option Addr} {b n B : Nat} {xs : List Int} (h : Blk w a b n xs) (hb : Below B w w') (hB : b < B) : Blk w' a b n xs := by
  refine ⟨h.1, ?_⟩
  rcases h.2 with h0 | ⟨e, hh⟩
  · exact .inl h0
  · exact .inr ⟨e, (hb.block b hB).trans hh⟩

theorem Blk.only {w w' : World} {a : Option Addr} {b c n : Nat} {xs : List Int} (h : Blk w a b n xs) (hb : Only c w w') (hB : b ≠ c) : Blk w' a b n xs := by
  refine ⟨h.1, ?_⟩
  rcases h.2 with h0 | ⟨e, hh⟩
  · exact .inl h0
  · exact .inr ⟨e, (hb.block b hB).trans hh⟩

/-- k, k + 1, and so on. -/
def seqL (k n : Nat) : List Int := (List.range n).map fun i => ((k + i : Nat) : Int)

theorem seqL_len (k n : Nat) : (seqL k n).length = n := by simp [seqL]
theorem seqL_at (k n i : Nat) (h : i < n) : (seqL k n).getD i 0 = ((k + i : Nat) : Int) := by simp [seqL, h]

theorem set_fill {xs : List Int} {n k : Nat} {cs : Array Value} {x : Int} (h : Fill xs n k cs) (hk : k < n) (hx : xs.getD k 0 = x) : Fill xs n (k + 1) (cs.setIfInBounds k (.int .i64 x)) := by
  obtain ⟨h1, h2⟩ := h
  refine ⟨by simp [h1], fun i hi => ?_⟩
  rw [Array.getElem?_setIfInBounds]
  by_cases e : k = i
  · subst e; rw [if_pos rfl, if_pos (by omega), hx]
  · rw [if_neg e]; exact h2 i (by omega)

/-- The first n numbers of an array. -/
def listF (f : Nat → Int) (n : Nat) : List Int := (List.range n).map f

theorem listF_len (f : Nat → Int) (n : Nat) : (listF f n).length = n := by simp [listF]
theorem listF_at (f : Nat → Int) (n i : Nat) (h : i < n) : (listF f n).getD i 0 = f i := by simp [listF, h]

set_option maxHeartbeats 400000 in
theorem list_any (f : Nat → Int) (n : Nat) (w : World) (hn : n ≤ 16) (hs : ∀ i, 0 ≤ f i ∧ f i ≤ 255) :
    Calls Try.prog 70 #[.agg (tokF f), .int .i64 (n : Int)] w fun e w' =>
      e = .returned (.slice (some ⟨w.heap.size + 1, 0, none⟩) n n) ∧ w' = (w.alloc (.cells (tokF f) 93)).alloc (.cells (cellsOf (listF f n)) 3) := by
  have hmk := run_make_row' (P := Try.prog) 31 3 (.int .i64 0) 8 Try.underlying31 Try.info3 rfl .i64 .i64 n (by omega) (by omega)
  go_enter Try.func70, Try.ntmps70
  go_wp2
  go_loopw [11] (fun i wr => ∃ k : Nat, k ≤ n ∧ i = .int .i64 k ∧ ∃ cs, Fill (listF f n) n k cs ∧ wr = (w.alloc (.cells (tokF f) 93)).alloc (.cells cs 3)) (fun i _ => n - (intOf i).toNat)
  case atStart => exact ⟨0, Nat.zero_le _, rfl, _, ⟨size_madeCells _ _, fun i hi => absurd hi (by omega)⟩, rfl⟩
  case round =>
    obtain ⟨k, hk, rfl, cs, hf, rfl⟩ := hrel
    by_cases hlt : k < n
    · have HF := hide (set_fill hf hlt (listF_at f n k hlt))
      have hsz := hf.1
      obtain ⟨v0, hv0⟩ : ∃ v0, cs[k]? = some v0 := ⟨_, Array.getElem?_eq_getElem (by omega)⟩
      have hat := tokF_at f k (by omega)
      have hx := hs k
      have hi1 : ((k : Int)) < 16 := by omega
      obtain ⟨x, hxq⟩ : ∃ x, Hid (f k = x) := ⟨_, rfl⟩
      rw [hxq.out] at hat hx HF
      clear hf hmk hs
      go_wp2
      go_roundw
      case rel => exact ⟨k + 1, by omega, by go_num, _, HF.out, rfl⟩
      case measure => simp [intOf]; omega
    · have hk' : k = n := by omega
      subst hk'
      have HF := hf.done (listF_len _ _)
      clear hmk hf
      subst HF
      go_wp2
      go_ret
      exact ⟨rfl, rfl⟩
end Go.Proofs.Ytdhnhpjcoeglmaa


/- What markTransS and markNet write: the lists of a net that lies in blocks of its own, one behind the other; nothing else. -/
namespace Go.Proofs.Ytdhnhpjcoeglmaa
open Go.RowKit

/-- Lists by their number, each in a block of its own between B and hi. -/
def PartF (w : World) (B hi n : Nat) (T : TypeId) (M : Nat → List Int) : Prop :=
  ∃ (C : Array Value) (f : Nat → Nat), w.heap[B]? = some (.cells C T (0, 0)) ∧ C.size = n ∧
    (∀ j, j < n → C[j]? = some (.slice (some ⟨f j, 0, none⟩) (M j).length (M j).length) ∧ B < f j ∧ f j < hi ∧ Blk w (some ⟨f j, 0, none⟩) (f j) (M j).length (M j)) ∧
    (∀ i j, i < j → j < n → f i < f j)

theorem PartL.bound {w : World} {B n : Nat} {T : TypeId} {L : List (List Int)} (h : PartL w B n n T L) : PartF w B w.heap.size n T (fun j => L.getD j []) := by
  obtain ⟨C, f, h1, h2, h3, h4⟩ := h
  refine ⟨C, f, h1, h2, fun j hj => ?_, h4⟩
  obtain ⟨e1, e2, e3⟩ := h3 j hj
  exact ⟨e1, e2, (Array.getElem?_eq_some_iff.mp e3).1, rfl, .inr ⟨rfl, e3⟩⟩

/-- Below lo all stands, and from hi on what was there. -/
structure Keeps (lo hi : Nat) (w w' : World) : Prop where
  bel : Below lo w w'
  top : ∀ k, hi ≤ k → k < w.heap.size → w'.heap[k]? = w.heap[k]?

theorem Keeps.refl (lo hi : Nat) (w : World) : Keeps lo hi w w := ⟨Below.refl _ _, fun _ _ _ => rfl⟩
theorem Keeps.trans {lo hi : Nat} {u v w : World} (h : Keeps lo hi u v) (g : Keeps lo hi v w) : Keeps lo hi u w :=
  ⟨h.bel.trans g.bel, fun k h1 h2 => (g.top k h1 (Nat.lt_of_lt_of_le h2 h.bel.size)).trans (h.top k h1 h2)⟩
theorem Keeps.of_only {lo hi b : Nat} {w w' : World} (h : Only b w w') (h1 : lo ≤ b) (h2 : b < hi) : Keeps lo hi w w' :=
  ⟨h.below h1, fun k hk _ => h.block k (by omega)⟩
theorem Keeps.of_below {lo hi : Nat} {w w' : World} (h : Below w.heap.size w w') (hl : lo ≤ w.heap.size) : Keeps lo hi w w' :=
  ⟨h.mono hl, fun k _ hk => h.block k hk⟩

theorem Blk.keeps {w w' : World} {a : Option Addr} {b n lo hi : Nat} {xs : List Int} (h : Blk w a b n xs) (hk : Keeps lo hi w w') (hb : hi ≤ b) : Blk w' a b n xs := by
  refine ⟨h.1, ?_⟩
  rcases h.2 with h0 | ⟨e, hh⟩
  · exact .inl h0
  · exact .inr ⟨e, (hk.top b hb (Array.getElem?_eq_some_iff.mp hh).1).trans hh⟩

theorem Blk.grow' {w w' : World} {a : Option Addr} {b n : Nat} {xs : List Int} (h : Blk w a b n xs) (hb : Below w.heap.size w w') : Blk w' a b n xs := by
  refine ⟨h.1, ?_⟩
  rcases h.2 with h0 | ⟨e, hh⟩
  · exact .inl h0
  · exact .inr ⟨e, (hb.block b (Array.getElem?_eq_some_iff.mp hh).1).trans hh⟩

theorem PartF.grow {w w' : World} {B hi n : Nat} {T : TypeId} {M : Nat → List Int} (h : PartF w B hi n T M) (hb : Below w.heap.size w w') : PartF w' B hi n T M := by
  obtain ⟨C, f, h1, h2, h3, h4⟩ := h
  refine ⟨C, f, (hb.block B (Array.getElem?_eq_some_iff.mp h1).1).trans h1, h2, fun j hj => ?_, h4⟩
  obtain ⟨e1, e2, e3, e4⟩ := h3 j hj
  exact ⟨e1, e2, e3, e4.grow' hb⟩

def updF (M : Nat → List Int) (j : Nat) (l : List Int) : Nat → List Int := fun i => if i = j then l else M i

theorem PartF.one {w : World} {B hi n : Nat} {T : TypeId} {M : Nat → List Int} (h : PartF w B hi n T M) {j : Nat} (hj : j < n) :
    ∃ b, w.cell? ⟨B, j, none⟩ = some (.slice (some ⟨b, 0, none⟩) (M j).length (M j).length) ∧ B < b ∧ b < hi ∧ Blk w (some ⟨b, 0, none⟩) b (M j).length (M j) ∧
      ∀ w' l, Blk w' (some ⟨b, 0, none⟩) b (M j).length l → Only b w w' → PartF w' B hi n T (updF M j l) := by
  obtain ⟨C, f, h1, h2, h3, h4⟩ := h
  obtain ⟨e1, e2, e3, e4⟩ := h3 j hj
  refine ⟨f j, by rw [cell_of_row w B j C T _ h1]; exact e1, e2, e3, e4, fun w' l hb ho => ?_⟩
  refine ⟨C, f, (ho.block B (by omega)).trans h1, h2, fun i hi' => ?_, h4⟩
  unfold updF
  by_cases hij : i = j
  · subst hij
    rw [if_pos rfl, hb.1]
    exact ⟨e1, e2, e3, hb⟩
  · rw [if_neg hij]
    obtain ⟨q1, q2, q3, q4⟩ := h3 i hi'
    have hne : f i ≠ f j := by
      rcases Nat.lt_or_gt_of_ne hij with h | h
      · have := h4 i j h hj; omega
      · have := h4 j i h hi'; omega
    exact ⟨q1, q2, q3, q4.only ho hne⟩

/-- How much the first k lists hold. -/
def cntF (M : Nat → List Int) : Nat → Nat
  | 0 => 0
  | k + 1 => cntF M k + (M k).length

theorem cntF_congr {M N : Nat → List Int} {k : Nat} (h : ∀ j, j < k → (M j).length = (N j).length) : cntF M k = cntF N k := by
  induction k with
  | zero => rfl
  | succ k ih => simp only [cntF]; rw [ih fun j hj => h j (by omega), h k (by omega)]

theorem cntF_mono {M : Nat → List Int} {j k : Nat} (h : j ≤ k) : cntF M j ≤ cntF M k := by
  induction k with
  | zero => have : j = 0 := by omega
            subst this; exact Nat.le_refl _
  | succ k ih =>
    by_cases e : j = k + 1
    · subst e; exact Nat.le_refl _
    · have := ih (by omega); simp only [cntF]; omega

/-- The first q lists are marked, from k0 on. -/
def markedF (k0 : Nat) (M : Nat → List Int) (q : Nat) : Nat → List Int := fun j => if j < q then seqL (k0 + cntF M j) (M j).length else M j

theorem markedF_len (k0 : Nat) (M : Nat → List Int) (q j : Nat) : (markedF k0 M q j).length = (M j).length := by
  unfold markedF; split
  · exact seqL_len _ _
  · rfl

theorem markedF_step (k0 : Nat) (M : Nat → List Int) (q : Nat) : updF (markedF k0 M q) q (seqL (k0 + cntF M q) (M q).length) = markedF k0 M (q + 1) := by
  funext j
  unfold updF markedF
  by_cases e : j = q
  · subst e; rw [if_pos rfl, if_pos (by omega)]
  · rw [if_neg e]
    by_cases h : j < q
    · rw [if_pos h, if_pos (by omega)]
    · rw [if_neg h, if_neg (by omega)]

theorem mark_step {w : World} {B hi n k0 q : Nat} {T : TypeId} {M : Nat → List Int} (h : PartF w B hi n T (markedF k0 M q)) (hq : q < n) (o : Nat) (ho : o = q) :
    ∃ b ln, Hid ((M q).length = ln) ∧ w.cell? ⟨B, o, none⟩ = some (.slice (some ⟨b, 0, none⟩) ln ln) ∧ Hid (Blk w (some ⟨b, 0, none⟩) b ln (M q)) ∧
      Hid (∀ w', Blk w' (some ⟨b, 0, none⟩) b ln (seqL (k0 + cntF M q) ln) → Only b w w' → PartF w' B hi n T (markedF k0 M (q + 1)) ∧ Keeps (B + 1) hi w w') := by
  obtain ⟨b, h1, h2, h3, h4, h5⟩ := h.one hq
  have e : markedF k0 M q q = M q := by unfold markedF; rw [if_neg (by omega)]
  rw [e] at h1 h4 h5
  subst ho
  refine ⟨b, _, rfl, h1, h4, fun w' hb ho => ⟨?_, Keeps.of_only ho (by omega) h3⟩⟩
  have := h5 w' _ hb ho
  rwa [markedF_step] at this

end Go.Proofs.Ytdhnhpjcoeglmaa


/- How a net that comes in is opened: a number and a slice whose lists can be read. -/
namespace Go.Proofs.Ytdhnhpjcoeglmaa
open Go.ChangeShapes Go.WideShapes Go.ChangeAt Go.RowKit Go.Deep Go.Joins

theorem row_of_ints {H : Type} {enc : TypeId × Value → H} {W : World} {base fuel : Nat} {v : Value} {x : DataW H × List MemPlace} (h : DataW.trod enc Try.prog W base (fun _ => true) true fuel 31 [v] = some x) :
    ∃ a n c xs, v = .slice a n c ∧ n ≤ maxLen ∧ Row W a n xs := by
  rcases open_ints Try.underlying31 Try.underlying3 (by kernel_rfl) h with ⟨hcs, _⟩ | ⟨y, l, c, zs, hcs, _, hl, hm, hz, _, hcell, _⟩
  · simp at hcs
    exact ⟨none, 0, 0, [], hcs, Nat.zero_le _, rfl, .inl rfl⟩
  · simp at hcs
    refine ⟨some y, l, c, zs.take l, hcs, by omega, ?_, ?_⟩
    · rw [List.length_take]; simp at hz; omega
    · by_cases h0 : l = 0
      · exact .inl h0
      · simp at hz
        obtain ⟨b, off, spot⟩ := y
        have hc := hcell 0 (by omega)
        have hspot : spot = none := by simpa [Addr.add] using World.cell?_spot hc
        subst hspot
        refine .inr ⟨b, off, rfl, ?_, fun i hi => ?_⟩
        · have := block_lt_of_cell hc; simpa [Addr.add] using this
        · have := hcell i (by omega)
          rw [List.getD_eq_getElem?_getD, List.getElem?_take_of_lt hi, ← List.getD_eq_getElem?_getD]
          rw [Addr.add_mid] at this
          exact this

theorem keep {v v' : World} {b : Nat} {C : Array Value} {t : TypeId} (h : v.heap[b]? = some (.cells C t (0, 0))) (hb : Below v.heap.size v v') : v'.heap[b]? = some (.cells C t (0, 0)) :=
  (hb.block b (Array.getElem?_eq_some_iff.mp h).1).trans h

theorem cells2 {v : World} {b : Nat} {x y : Value} {t : TypeId} (h : v.heap[b]? = some (.cells #[x, y] t (0, 0))) : v.cell? ⟨b, 0, none⟩ = some x ∧ v.cell? ⟨b, 1, none⟩ = some y :=
  ⟨cell_of_row v b 0 _ _ _ h, cell_of_row v b 1 _ _ _ h⟩

theorem row_lt {v : World} {b : Nat} {C : Array Value} {t : TypeId} (h : v.heap[b]? = some (.cells C t (0, 0))) : b < v.heap.size := (Array.getElem?_eq_some_iff.mp h).1
end Go.Proofs.Ytdhnhpjcoeglmaa


/- l1Own: a list's own copy; l2Can, l2Fire and the specification's Fire, for every net and mark in memory. -/
namespace Go.Proofs.Ytdhnhpjcoeglmaa
open Go.RowKit

/-- A slice of n numbers from the head of the block g, in which there may be more room. -/
def OutR (w : World) (g n : Nat) (ys : List Int) : Prop :=
  ys.length = n ∧ ∃ cur, w.heap[g]? = some (.cells cur 3 (0, 0)) ∧ n ≤ cur.size ∧ ∀ i, i < n → cur[i]? = some (.int .i64 (ys.getD i 0))

theorem OutR.row {w : World} {g n : Nat} {ys : List Int} (h : OutR w g n ys) : Row w (some ⟨g, 0, none⟩) n ys := by
  obtain ⟨hl, cur, h1, h2, h3⟩ := h
  refine ⟨hl, .inr ⟨g, 0, rfl, (Array.getElem?_eq_some_iff.mp h1).1, fun i hi => ?_⟩⟩
  rw [cell_of_row w g (0 + i) _ _ _ h1, Nat.zero_add]
  exact h3 i hi

theorem OutR.grow {w w' : World} {g n : Nat} {ys : List Int} (h : OutR w g n ys) (hb : Below w.heap.size w w') : OutR w' g n ys := by
  obtain ⟨hl, cur, h1, h2, h3⟩ := h
  exact ⟨hl, cur, (hb.block g (Array.getElem?_eq_some_iff.mp h1).1).trans h1, h2, h3⟩

theorem OutR.set {w : World} {g n : Nat} {ys : List Int} (h : OutR w g n ys) (k : Nat) (hk : k < n) (x : Int) : OutR (w.setCell ⟨g, k, none⟩ (.int .i64 x)) g n (ys.set k x) := by
  obtain ⟨hl, cur, h1, h2, h3⟩ := h
  refine ⟨by simpa using hl, _, heap_setCell_same w g k cur _ _ h1, by simpa using h2, fun i hi => ?_⟩
  rw [Array.getElem?_setIfInBounds]
  by_cases e : k = i
  · subst e
    rw [if_pos rfl, if_pos (by omega)]
    simp [List.getD_eq_getElem?_getD, show k < ys.length by omega]
  · rw [if_neg e, h3 i hi]
    simp [List.getD_eq_getElem?_getD, e]

theorem outR_of_own {B : Nat} {w : World} {v : Value} {n : Nat} {l : List Int} (hown : w.ownsRow B 3 1 v n (l.map (Value.int .i64))) (hv : v ≠ .slice none 0 0) : ∃ g c, v = .slice (some ⟨g, 0, none⟩) n c ∧ B ≤ g ∧ n ≤ c ∧ OutR w g n l := by
  have hl : l.length = n := by have := hown.1; simpa using this
  rcases hown.2 with ⟨rfl, rfl⟩ | ⟨g, cap, cur, rfl, hb, hh, hnc, _, hsz, ht⟩
  · exact absurd rfl hv
  · refine ⟨g, cap, rfl, hb, hnc, hl, cur, hh, by omega, fun i hi => ?_⟩
    have e : (cur.toList.take (n * 1))[i]? = (l.map (Value.int .i64))[i]? := by rw [ht]
    rw [List.getElem?_take_of_lt (by omega), Array.getElem?_toList] at e
    rw [e]
    simp [List.getElem?_eq_getElem (show i < l.length by omega)]

theorem info_split {P : Program} {e : TypeId} {z : Value} {size bytes : Nat} (h : (P.info? e).map (fun i => (i.zero, i.size, i.bytes)) = some (some z, size, bytes)) : ∃ i, P.info? e = some i ∧ i.zero = some z ∧ i.size = size ∧ i.bytes = bytes := by
  obtain ⟨i, hi, hzz⟩ := Option.map_eq_some_iff.1 h
  simp only [Prod.mk.injEq] at hzz
  exact ⟨i, hi, hzz.1, hzz.2.1, hzz.2.2⟩

theorem Row.cells {w : World} {b off n : Nat} {xs : List Int} (h : Row w (some ⟨b, off, none⟩) n xs) : ∀ j u, (xs.map (Value.int .i64))[j]? = some u → w.cell? ((⟨b, off, none⟩ : Addr).add j) = some u := by
  intro j u hu
  rw [Addr.add_mid]
  simp only [List.getElem?_map, Option.map_eq_some_iff] at hu
  obtain ⟨x, hx, rfl⟩ := hu
  have hj := (List.getElem?_eq_some_iff.mp hx).1
  have hl := h.1
  obtain ⟨b1, o1, y, he, _, hc, H⟩ := h.at (show j < n by omega)
  simp only [Option.some.injEq, Addr.mk.injEq] at he
  obtain ⟨rfl, rfl, _⟩ := he
  rw [hc]
  have := H.out
  rw [hx] at this
  simp at this
  rw [this]

set_option maxHeartbeats 400000 in
theorem own_any (b off n ca : Nat) (xs : List Int) (w : World) (ha : Row w (some ⟨b, off, none⟩) n xs) (hn : n ≤ 1048576) :
    Calls Try.prog 67 #[.slice (some ⟨b, off, none⟩) n ca] w fun e w' => ∃ g c, e = .returned (.slice (some ⟨g, 0, none⟩) n c) ∧ w.heap.size ≤ g ∧ n ≤ c ∧ OutR w' g n xs ∧ Below w.heap.size w w' := by
  obtain ⟨i0, hi, hz0, hz1, hz2⟩ := info_split Try.info3
  have HA := hide ha
  have HL := hide ha.1
  clear ha
  have HW := hide (HA.out.alloc (.cells #[] 3))
  have HO : Hid ((w.alloc (.cells #[] 3)).ownsRow w.heap.size 3 1 (.slice (some ⟨w.heap.size, 0, none⟩) 0 0) 0 []) :=
    ⟨rfl, .inr ⟨w.heap.size, 0, #[], rfl, Nat.le_refl _, heap_alloc_new _ _, Nat.le_refl _, Nat.zero_le _, rfl, rfl⟩⟩
  have HN := hide (show (xs.map (Value.int .i64)).length = n * 1 by rw [List.length_map, Nat.mul_one]; exact HL.out)
  have H1 := hide (show ∀ u ∈ xs.map (Value.int .i64), u.oneCell' = true by intro u hu; simp at hu; obtain ⟨x, _, rfl⟩ := hu; rfl)
  have HX := hide (show 0 + n ≤ maxLen by unfold maxLen; omega)
  have HY := hide (show (0 + n) * 8 ≤ 140737488355328 by omega)
  have HZ := hide (show w.heap.size ≤ (w.alloc (.cells #[] 3)).heap.size by simp)
  go_enter Try.func67, Try.ntmps67
  go_wp2_with (refine wpList_append_own _ rfl (.tmp 3) (.tmp 4) 31 rfl w.heap.size 3 i0 (.int .i64 0) 1 8 Try.underlying31 hi hz0 hz1 hz2 rfl (by decide) (.slice (some ⟨w.heap.size, 0, none⟩) 0 0) 0 [] rfl HO.out ⟨b, off, none⟩ n ca (xs.map (Value.int .i64)) rfl HN.out HW.out.cells H1.out HX.out HY.out HZ.out ?_; intro v' W' r1 r2 r3)
  go_ret
  rw [Nat.zero_add, List.nil_append] at r1
  obtain ⟨g, c, rfl, hg, hc, hout⟩ := outR_of_own r1 (fun e => by have := (r3.mp e).1; simp at this)
  exact ⟨g, c, rfl, hg, hc, hout, (below_al w _).grown r2 (by simp) (fun k hk => by simp [Value.ownBlock] at hk; omega)⟩

def canB (x0 ys : List Int) : Bool := x0.all fun p => !decide (ys.getD p.toNat 0 = 0)

theorem canB_take {xs ys : List Int} {k : Nat} {x : Int} (h : canB (xs.take k) ys = true) (hx : xs[k]? = some x) (hne : ¬ ys.getD x.toNat 0 = 0) : canB (xs.take (k + 1)) ys = true := by
  unfold canB at *
  rw [List.take_add_one, hx, List.all_append, h]
  simpa [List.getD_eq_getElem?_getD] using hne

theorem canB_no {xs ys : List Int} {k : Nat} {x : Int} (hx : xs[k]? = some x) (he : ys.getD x.toNat 0 = 0) : canB xs ys = false := by
  unfold canB
  rw [List.all_eq_false]
  exact ⟨x, List.mem_of_getElem? hx, by simpa [List.getD_eq_getElem?_getD] using he⟩

set_option maxHeartbeats 400000 in
theorem can_any (a0 a1 a2 am : Option Addr) (n0 n1 n2 c0 c1 c2 nm cm : Nat) (x0 ys : List Int) (w : World) (r0 : Row w a0 n0 x0) (rm : Row w am nm ys) (h0 : n0 ≤ 1048576) (hin : ∀ x ∈ x0, 0 ≤ x ∧ x < nm) :
    Calls Try.prog 180 #[.agg #[.slice a0 n0 c0, .slice a1 n1 c1, .slice a2 n2 c2], .slice am nm cm] w fun e w' => e = .returned (.bool (canB x0 ys)) ∧ Below w.heap.size w w' := by
  have hAl := below_al w (.cells #[.slice a0 n0 c0, .slice a1 n1 c1, .slice a2 n2 c2] 78)
  have R0 := hide (r0.below hAl)
  have RM := hide (rm.below hAl)
  have HIN := hide hin
  have HB := hide hAl
  clear r0 rm hAl hin
  go_enter Try.func180, Try.ntmps180
  go_wp2_with fail
  generalize w.alloc (.cells #[.slice a0 n0 c0, .slice a1 n1 c1, .slice a2 n2 c2] 78) = v at *
  go_loop [10] (fun i => ∃ k : Nat, k ≤ n0 ∧ i = .int .i64 k ∧ Hid (canB (x0.take k) ys = true)) (fun i => n0 - (intOf i).toNat)
  case atStart => exact ⟨0, Nat.zero_le _, rfl, rfl⟩
  case round =>
    obtain ⟨k, hk, rfl, hu⟩ := hrel
    by_cases hlt : k < n0
    rotate_left
    · have hk' : k = n0 := by omega
      subst hk'
      have HA : Hid (canB x0 ys = true) := by have := hu.out; rwa [List.take_of_length_le (by have := R0.out.1; omega)] at this
      go_wp2_with fail
      go_ret
      exact ⟨ret_bool HA.out.symm, HB.out⟩
    obtain ⟨b1, o1, x, rfl, hl1, hc1, H1⟩ := R0.out.at hlt
    obtain ⟨hx0, hx1⟩ := HIN.out x (List.mem_of_getElem? H1.out)
    obtain ⟨j, rfl⟩ : ∃ j : Nat, x = (j : Int) := ⟨x.toNat, by omega⟩
    obtain ⟨b2, o2, y, rfl, hl2, hc2, H2⟩ := RM.out.at (show j < nm by omega)
    have hy : ys.getD (j : Int).toNat 0 = y := by rw [Int.toNat_natCast, List.getD_eq_getElem?_getD, H2.out]; rfl
    by_cases he : y = 0
    · have HN := hide (canB_no H1.out (hy.trans he))
      subst he
      clear hy hu H1 H2
      go_wp2_with fail
      go_ret
      exact ⟨ret_bool HN.out.symm, HB.out⟩
    · have HU := hide (canB_take hu.out H1.out (by rw [hy]; exact he))
      clear hy hu H1 H2
      go_wp2_with fail
      go_round
      case rel => exact ⟨k + 1, by omega, by go_num, HU⟩
      case measure => simp [intOf]; omega
end Go.Proofs.Ytdhnhpjcoeglmaa
