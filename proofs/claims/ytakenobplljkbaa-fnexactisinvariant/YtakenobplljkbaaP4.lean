/- Contracts that the proof stands on, one behind the other. -/
import Derived.Test.YtakenobplljkbaaP3
import Derived.BigQuiet
import Derived.BigRegion
import Derived.OwnWalk
/- sumOf and productsOf of the program, and what is known of sums of numbers by number. -/
namespace Go.Proofs.Ytakenobplljkbaa
open Go.RowKit
set_option maxRecDepth 10000

/-- f 0 and f 1 and so on, n of them, added. -/
def sumF (f : Nat → Int) : Nat → Int
  | 0 => 0
  | k + 1 => sumF f k + f k

theorem sumF_congr {f g : Nat → Int} {n : Nat} (h : ∀ i, i < n → f i = g i) : sumF f n = sumF g n := by
  induction n with
  | zero => rfl
  | succ k ih => rw [sumF, sumF, ih (fun i hi => h i (by omega)), h k (by omega)]

theorem sumF_bound {f : Nat → Int} {n : Nat} {M : Int} (hM : 0 ≤ M) (h : ∀ i, i < n → -M ≤ f i ∧ f i ≤ M) (k : Nat) (hk : k ≤ n) : -(M * n) ≤ sumF f k ∧ sumF f k ≤ M * n := by
  have key : ∀ k, k ≤ n → -(M * k) ≤ sumF f k ∧ sumF f k ≤ M * k := by
    intro k hk
    induction k with
    | zero => simp [sumF]
    | succ j ih =>
      have h1 := ih (by omega)
      have h2 := h j (by omega)
      have h3 : M * ((j + 1 : Nat) : Int) = M * j + M := by rw [Int.natCast_succ, Int.mul_add, Int.mul_one]
      rw [sumF, h3]; omega
  have h1 := key k hk
  have h2 : M * (k : Int) ≤ M * (n : Int) := Int.mul_le_mul_of_nonneg_left (by omega) hM
  omega

/-- The first k numbers are f's, the others are 0. -/
def outF (f : Nat → Int) (k n : Nat) : List Int := listF (fun i => if i < k then f i else 0) n

theorem outF_len (f : Nat → Int) (k n : Nat) : (outF f k n).length = n := listF_len _ _

theorem outF_all (f : Nat → Int) (n : Nat) : outF f n n = listF f n := by
  unfold outF listF
  exact List.map_congr_left fun i hi => by rw [if_pos (List.mem_range.mp hi)]

theorem outF_set (f : Nat → Int) {k n : Nat} (hk : k < n) : (outF f k n).set k (f k) = outF f (k + 1) n := by
  apply List.ext_getElem?
  intro i
  unfold outF listF
  rw [List.getElem?_set]
  by_cases e : k = i
  · subst e
    rw [if_pos rfl, if_pos (by simpa using hk)]
    simp [hk]
  · rw [if_neg e]
    simp only [List.getElem?_map]
    by_cases hi : i < n
    · rw [List.getElem?_range hi]
      simp only [Option.map_some]
      by_cases h1 : i < k
      · rw [if_pos h1, if_pos (by omega)]
      · rw [if_neg h1, if_neg (by omega)]
    · rw [List.getElem?_eq_none (by simpa using hi)]; rfl

theorem outF_made (w : World) (f : Nat → Int) (n : Nat) : OutR (w.alloc (.cells (madeCells #[.int .i64 0] n) 3)) w.heap.size n (outF f 0 n) := by
  refine ⟨outF_len _ _ _, _, heap_alloc_new _ _, by rw [size_madeCells]; omega, fun i hi => ?_⟩
  unfold outF
  rw [listF_at _ _ _ hi, if_neg (by omega)]
  unfold madeCells
  simp [hi, Nat.mod_one]

theorem OutR.put {w : World} {g n k : Nat} {f : Nat → Int} (h : OutR w g n (outF f k n)) (hk : k < n) {x : Int} (hx : f k = x) : OutR (w.setCell ⟨g, k, none⟩ (.int .i64 x)) g n (outF f (k + 1) n) := by
  rw [← outF_set f hk, hx]; exact h.set k hk x

theorem getD_at {xs : List Int} {k : Nat} {x : Int} (h : Hid (xs[k]? = some x)) : xs.getD k 0 = x := by rw [List.getD_eq_getElem?_getD, h.out]; rfl

set_option maxHeartbeats 1000000 in
theorem sumOf_any (a : Option Addr) (n c : Nat) (xs : List Int) (w : World) (rt : Row w a n xs) (hn : n ≤ 1000) (hb : ∀ i, i < n → -1000000 ≤ xs.getD i 0 ∧ xs.getD i 0 ≤ 1000000) :
    Calls Try.prog 57 #[.slice a n c] w fun e w' => e = .returned (.int .i64 (sumF (fun i => xs.getD i 0) n)) ∧ w' = w := by
  have HS := hide (sumF_bound (M := 1000000) (by omega) hb)
  have HB := hide hb
  clear hb
  go_enter Try.func57, Try.ntmps57
  go_wp2_with fail
  go_loop [3, 8] (fun s i => ∃ k : Nat, k ≤ n ∧ i = .int .i64 k ∧ s = .int .i64 (sumF (fun i => xs.getD i 0) k)) (fun _ i => n - (intOf i).toNat)
  case atStart => exact ⟨0, Nat.zero_le _, rfl, rfl⟩
  case round =>
    obtain ⟨k, hk, rfl, rfl⟩ := hrel
    by_cases hkn : k < n
    rotate_left
    · have hk' : k = n := by omega
      subst hk'
      go_wp2_with fail
      go_ret
      exact ⟨rfl, rfl⟩
    obtain ⟨b1, o1, t, rfl, hl1, hc1, H1⟩ := rt.at hkn
    have h1 := HS.out k hk
    have h2 := HB.out k hkn
    have h3 := getD_at H1
    obtain ⟨s, hs⟩ : ∃ s, Hid (sumF (fun i => xs.getD i 0) k = s) := ⟨_, rfl⟩
    have HN : Hid (sumF (fun i => xs.getD i 0) (k + 1) = s + t) := by show _ = _; rw [sumF, hs.out, h3]
    rw [h3] at h2
    rw [hs.out] at h1 ⊢
    have hs1 : -1000000000 ≤ s ∧ s ≤ 1000000000 := by omega
    clear rt h1 H1 h3 HS HB
    go_wp2_with fail
    go_round
    case rel => exact ⟨k + 1, by omega, by go_num, by rw [HN.out]⟩
    case measure => simp [intOf]; omega

/-- A list of the program's own, made whole. -/
def MadeEnd (f : Nat → Int) (n : Nat) (w : World) (e : Ending) (w' : World) : Prop :=
  ∃ g, e = .returned (.slice (some ⟨g, 0, none⟩) n n) ∧ w.heap.size ≤ g ∧ OutR w' g n (listF f n) ∧ Below w.heap.size w w'

set_option maxHeartbeats 2000000 in
theorem productsOf_any (a b : Option Addr) (n c d : Nat) (xs ys : List Int) (w : World) (ra : Row w a n xs) (rb : Row w b n ys) (hn : n ≤ 1000) (hb : ∀ i, i < n → -1000000 ≤ xs.getD i 0 * ys.getD i 0 ∧ xs.getD i 0 * ys.getD i 0 ≤ 1000000) :
    Calls Try.prog 58 #[.slice a n c, .slice b n d] w fun e w' => MadeEnd (fun i => xs.getD i 0 * ys.getD i 0) n w e w' := by
  have hmk := run_make_many (P := Try.prog) 35 3 (.int .i64 0) 1 8 Try.underlying35 Try.info3 .i64 .i64 n (by omega) (by omega)
  simp only [Value.cells, Nat.mul_one] at hmk
  have RA := hide ra
  have RB := hide rb
  have HB := hide hb
  clear ra rb hb
  go_enter Try.func58, Try.ntmps58
  go_wp2_with fail
  have HO := hide (outF_made w (fun i => xs.getD i 0 * ys.getD i 0) n)
  have HW := hide (below_al w (.cells (madeCells #[.int .i64 0] n) 3))
  generalize w.alloc (.cells (madeCells #[.int .i64 0] n) 3) = v at *
  obtain ⟨g, hg⟩ : ∃ g, Hid (w.heap.size = g) := ⟨_, rfl⟩
  rw [hg.out] at HO ⊢
  clear hmk
  go_loopw [12] (fun i wr => ∃ k : Nat, k ≤ n ∧ i = .int .i64 k ∧ Hid (OutR wr g n (outF (fun i => xs.getD i 0 * ys.getD i 0) k n)) ∧ Hid (Below w.heap.size w wr)) (fun i _ => n - (intOf i).toNat)
  case atStart => exact ⟨0, Nat.zero_le _, rfl, HO, HW⟩
  case round =>
    obtain ⟨k, hk, rfl, ho, hbw⟩ := hrel
    clear HO HW
    by_cases hkn : k < n
    rotate_left
    · have hk' : k = n := by omega
      subst hk'
      have HE : Hid (MadeEnd (fun i => xs.getD i 0 * ys.getD i 0) k w (.returned (.slice (some ⟨g, 0, none⟩) k k)) wr) := ⟨g, rfl, by rw [hg.out]; omega, by rw [← outF_all]; exact ho.out, hbw.out⟩
      go_wp2_with fail
      go_ret
      exact HE.out
    obtain ⟨b1, o1, t, rfl, hl1, hc1, H1⟩ := (RA.out.below hbw.out).at hkn
    obtain ⟨b2, o2, u, rfl, hl2, hc2, H2⟩ := (RB.out.below hbw.out).at hkn
    have h2 := HB.out k hkn
    rw [getD_at H1, getD_at H2] at h2
    obtain ⟨hle, cur, hh, hcs, hcell⟩ := ho.out
    have hfr := frozen_of_row wr g k cur _ hh
    have hcy := cell_of_row wr g k cur _ _ hh
    rw [hcell k hkn] at hcy
    obtain ⟨y, hyy⟩ : ∃ y, Hid ((outF (fun i => xs.getD i 0 * ys.getD i 0) k n).getD k 0 = y) := ⟨_, rfl⟩
    rw [hyy.out] at hcy
    have HN := hide (ho.out.put hkn (x := t * u) (by simp only [getD_at H1, getD_at H2]))
    have HBN := hide (hbw.out.setCell (p := ⟨g, k, none⟩) (by rw [hg.out]; exact Nat.le_refl _) (.int .i64 (t * u)))
    clear ho hbw hh hcell H1 H2 hcs hle hyy RA RB HB
    go_wp2_with fail
    go_region
    go_wp2_with fail
    go_roundw
    case rel => exact ⟨k + 1, by omega, by go_num, HN, HBN.out.drew⟩
    case measure => simp [intOf]; omega
end Go.Proofs.Ytakenobplljkbaa


/- What the second half of a law over a net and a list keeps in mind: the net and the list handed in, the list answered, each in blocks of their own, and the specification's answer, while memory grows and blocks are marked. -/
namespace Go.Proofs.Ytakenobplljkbaa
open Go.RowKit

theorem PartF.lists {w : World} {B hi n : Nat} {T : TypeId} {L : List (List Int)} (h : PartF w B hi (3 * n) T (fun j => L.getD j [])) (hl : L.length = 3 * n) (hs : sizeN n L ≤ 1048576) : Lists w (some ⟨B, 0, none⟩) (3 * n) L := by
  obtain ⟨C, f, h1, h2, h3, h4⟩ := h
  refine ⟨hl, .inr ⟨B, 0, rfl, (Array.getElem?_eq_some_iff.mp h1).1, fun j hj => ?_⟩⟩
  obtain ⟨e1, e2, e3, e4⟩ := h3 j hj
  refine ⟨_, _, _, by rw [cell_of_row w B (0 + j) C T _ h1, Nat.zero_add]; exact e1, ?_, e4.row⟩
  have := len_le L j
  show (L.getD j []).length ≤ maxLen
  unfold sizeN at hs; unfold maxLen; omega

theorem cntF_size (L : List (List Int)) (k : Nat) (hk : k ≤ L.length) : cntF (fun j => L.getD j []) k = sizeL (L.take k) := by
  induction k with
  | zero => simp [cntF, sizeL]
  | succ k ih => simp only [cntF]; rw [ih (by omega), sizeL_take_succ L k (by omega)]

theorem cntF_all {L : List (List Int)} {n : Nat} (hl : L.length = 3 * n) : cntF (fun j => L.getD j []) (3 * n) = sizeL L := by
  rw [cntF_size L (3 * n) (by omega), List.take_of_length_le (by omega)]

/-- w: the world ahead of the law; u: behind the specification's answer; v: now. -/
structure Sn (w u v : World) (p : Int) (a : Option Addr) (n c B hi bx : Nat) (M : Nat → List Int) (ax : Option Addr) (b1 nm : Nat) (ly : List Int) (ag : Option Addr) (bg ng : Nat) (lg : List Int) : Prop where
  old : Below w.heap.size w v
  mid : Below u.heap.size u v
  par : v.heap[w.heap.size]? = some (.cells #[.int .i64 p, .slice a n c] 24 (0, 0))
  x0 : v.heap[bx]? = some (.cells #[.int .i64 p, .slice (some ⟨B, 0, none⟩) n n] 28 (0, 0))
  net : PartF v B hi (3 * n) 50 M
  x1 : Blk v ax b1 nm ly
  g : Blk v ag bg ng lg

variable {w u v v' : World} {p : Int} {a : Option Addr} {n c B hi bx : Nat} {M : Nat → List Int} {ax : Option Addr} {b1 nm : Nat} {ly : List Int} {ag : Option Addr} {bg ng : Nat} {lg l : List Int}

theorem Sn.grow (h : Sn w u v p a n c B hi bx M ax b1 nm ly ag bg ng lg) (hb : Below v.heap.size v v') : Sn w u v' p a n c B hi bx M ax b1 nm ly ag bg ng lg :=
  ⟨h.old.trans (hb.mono h.old.size), h.mid.trans (hb.mono h.mid.size), keep h.par hb, keep h.x0 hb, h.net.grow hb, h.x1.grow' hb, h.g.grow' hb⟩

theorem Sn.markN {M' : Nat → List Int} (h : Sn w u v p a n c B hi bx M ax b1 nm ly ag bg ng lg) (hm : PartF v' B hi (3 * n) 50 M') (hk : Keeps (B + 1) hi v v') (h1 : w.heap.size ≤ B) (h2 : u.heap.size ≤ B) (hx : hi ≤ bx) (hy : hi ≤ b1) (hg : hi ≤ bg) :
    Sn w u v' p a n c B hi bx M' ax b1 nm ly ag bg ng lg :=
  ⟨h.old.trans (hk.bel.mono (by omega)), h.mid.trans (hk.bel.mono (by omega)), (hk.bel.block _ (by omega)).trans h.par, (hk.top bx hx (row_lt h.x0)).trans h.x0, hm, h.x1.keeps hk hy, h.g.keeps hk hg⟩

theorem PartF.only {w w' : World} {B hi n b : Nat} {T : TypeId} {M : Nat → List Int} (h : PartF w B hi n T M) (ho : Only b w w') (hb : hi ≤ b) (hB : B ≠ b) : PartF w' B hi n T M := by
  obtain ⟨C, f, h1, h2, h3, h4⟩ := h
  refine ⟨C, f, (ho.block B hB).trans h1, h2, fun j hj => ?_, h4⟩
  obtain ⟨e1, e2, e3, e4⟩ := h3 j hj
  exact ⟨e1, e2, e3, e4.only ho (by omega)⟩

theorem Sn.markX (h : Sn w u v p a n c B hi bx M ax b1 nm ly ag bg ng lg) (hm : Blk v' ax b1 nm l) (ho : Only b1 v v') (h1 : w.heap.size < b1) (h2 : u.heap.size ≤ b1) (hb : hi ≤ b1) (hB : B ≠ b1) (hx : bx ≠ b1) (hg : bg ≠ b1) :
    Sn w u v' p a n c B hi bx M ax b1 nm l ag bg ng lg :=
  ⟨h.old.trans (ho.below (by omega)), h.mid.trans (ho.below h2), (ho.block _ (by omega)).trans h.par, (ho.block _ hx).trans h.x0, h.net.only ho hb hB, hm, h.g.only ho hg⟩

theorem Sn.markG (h : Sn w u v p a n c B hi bx M ax b1 nm ly ag bg ng lg) (hm : Blk v' ag bg ng l) (ho : Only bg v v') (h1 : w.heap.size < bg) (h2 : u.heap.size ≤ bg) (hb : hi ≤ bg) (hB : B ≠ bg) (hx : bx ≠ bg) (hy : b1 ≠ bg) :
    Sn w u v' p a n c B hi bx M ax b1 nm ly ag bg ng l :=
  ⟨h.old.trans (ho.below (by omega)), h.mid.trans (ho.below h2), (ho.block _ (by omega)).trans h.par, (ho.block _ hx).trans h.x0, h.net.only ho hb hB, h.x1.only ho hy, hm⟩

theorem blk_new' (w : World) (xs : List Int) (n : Nat) (hl : xs.length = n) : Blk (w.alloc (.cells (cellsOf xs) 3)) (some ⟨w.heap.size, 0, none⟩) w.heap.size n xs :=
  ⟨hl, .inr ⟨rfl, heap_alloc_new _ _⟩⟩
end Go.Proofs.Ytakenobplljkbaa


/- Lists that an append has made: a block of its own, in which there may be more room; what markIntS writes into one; and the state of a law over a net whose answer is such a list. -/
namespace Go.Proofs.Ytakenobplljkbaa
open Go.RowKit

/-- A slice of n numbers from the head of the block b, in which there may be more room; or an empty one. -/
def Ob (w : World) (a : Option Addr) (b n : Nat) (xs : List Int) : Prop :=
  xs.length = n ∧ (n = 0 ∨ (a = some ⟨b, 0, none⟩ ∧ ∃ cur, w.heap[b]? = some (.cells cur 3 (0, 0)) ∧ n ≤ cur.size ∧ ∀ i, i < n → cur[i]? = some (.int .i64 (xs.getD i 0))))

theorem Ob.row {w : World} {a : Option Addr} {b n : Nat} {xs : List Int} (h : Ob w a b n xs) : Row w a n xs := by
  rcases h.2 with h0 | ⟨e, cur, h1, h2, h3⟩
  · exact ⟨h.1, .inl h0⟩
  · refine ⟨h.1, .inr ⟨b, 0, e, (Array.getElem?_eq_some_iff.mp h1).1, fun i hi => ?_⟩⟩
    rw [cell_of_row w b (0 + i) _ _ _ h1, Nat.zero_add]
    exact h3 i hi

theorem Ob.grow {w w' : World} {a : Option Addr} {b n : Nat} {xs : List Int} (h : Ob w a b n xs) (hb : Below w.heap.size w w') : Ob w' a b n xs := by
  refine ⟨h.1, ?_⟩
  rcases h.2 with h0 | ⟨e, cur, h1, h2⟩
  · exact .inl h0
  · exact .inr ⟨e, cur, (hb.block b (Array.getElem?_eq_some_iff.mp h1).1).trans h1, h2⟩

theorem Ob.only {w w' : World} {a : Option Addr} {b c n : Nat} {xs : List Int} (h : Ob w a b n xs) (ho : Only c w w') (hB : b ≠ c) : Ob w' a b n xs := by
  refine ⟨h.1, ?_⟩
  rcases h.2 with h0 | ⟨e, cur, h1, h2⟩
  · exact .inl h0
  · exact .inr ⟨e, cur, (ho.block b hB).trans h1, h2⟩

theorem Ob.keeps {w w' : World} {a : Option Addr} {b n lo hi : Nat} {xs : List Int} (h : Ob w a b n xs) (hk : Keeps lo hi w w') (hb : hi ≤ b) : Ob w' a b n xs := by
  refine ⟨h.1, ?_⟩
  rcases h.2 with h0 | ⟨e, cur, h1, h2⟩
  · exact .inl h0
  · exact .inr ⟨e, cur, (hk.top b hb (Array.getElem?_eq_some_iff.mp h1).1).trans h1, h2⟩

/-- The first k of n numbers are there. -/
def FillR (xs : List Int) (n k : Nat) (cs : Array Value) : Prop := n ≤ cs.size ∧ ∀ i, i < k → cs[i]? = some (.int .i64 (xs.getD i 0))

theorem set_fillR {xs : List Int} {n k : Nat} {cs : Array Value} {x : Int} (h : FillR xs n k cs) (hk : k < n) (hx : xs.getD k 0 = x) : FillR xs n (k + 1) (cs.setIfInBounds k (.int .i64 x)) := by
  obtain ⟨h1, h2⟩ := h
  refine ⟨by simp; exact h1, fun i hi => ?_⟩
  rw [Array.getElem?_setIfInBounds]
  by_cases e : k = i
  · subst e; rw [if_pos rfl, if_pos (by omega), hx]
  · rw [if_neg e]; exact h2 i (by omega)

set_option maxHeartbeats 400000 in
theorem markO_any (a : Option Addr) (b n c k0 : Nat) (xs : List Int) (w : World) (h : Ob w a b n xs) (hn : n ≤ 1048576) (hk0 : k0 ≤ 4194304) :
    Calls Try.prog 20 #[.slice a n c, .int .i64 (k0 : Int)] w fun e w' => e = .returned (.int .i64 ((k0 + n : Nat) : Int)) ∧ Ob w' a b n (seqL k0 n) ∧ Only b w w' := by
  have HB := hide h
  clear h
  go_enter Try.func20, Try.ntmps20
  go_wp2
  go_loopw [1, 5] (fun t i wr => ∃ k : Nat, k ≤ n ∧ i = .int .i64 k ∧ t = .int .i64 ((k0 + k : Nat) : Int) ∧ Only b w wr ∧ (n = 0 ∨ (a = some ⟨b, 0, none⟩ ∧ ∃ cs, FillR (seqL k0 n) n k cs ∧ wr.heap[b]? = some (.cells cs 3 (0, 0))))) (fun _ i _ => n - (intOf i).toNat)
  case atStart =>
    refine ⟨0, Nat.zero_le _, rfl, rfl, Only.refl _ _, ?_⟩
    rcases HB.out.2 with h0 | ⟨e, hh⟩
    · exact .inl h0
    · obtain ⟨cur, q1, q2, _⟩ := hh
      exact .inr ⟨e, cur, ⟨q2, fun i hi => absurd hi (by omega)⟩, q1⟩
  case round =>
    obtain ⟨k, hk, rfl, rfl, ho, hd⟩ := hrel
    by_cases hlt : k < n
    · obtain ⟨rfl, cs, hf, hh⟩ : a = some ⟨b, 0, none⟩ ∧ ∃ cs, FillR (seqL k0 n) n k cs ∧ wr.heap[b]? = some (.cells cs 3 (0, 0)) := by
        rcases hd with h0 | h
        · omega
        · exact h
      have HF := hide (set_fillR hf hlt (seqL_at k0 n k hlt))
      have hsz := hf.1
      obtain ⟨v0, hv0⟩ : ∃ v0, wr.cell? ⟨b, k, none⟩ = some v0 := ⟨_, by rw [cell_of_row wr b k cs _ _ hh]; exact Array.getElem?_eq_getElem (by omega)⟩
      have hfr := frozen_of_row wr b k cs _ hh
      have HH := hide (heap_setCell_same wr b k cs _ (.int .i64 ((k0 + k : Nat) : Int)) hh)
      have HO := hide (ho.setCell k (.int .i64 ((k0 + k : Nat) : Int)))
      have hb1 : ((k0 + k : Nat) : Int) ≤ 5242880 := by omega
      have hb0 : (0 : Int) ≤ ((k0 + k : Nat) : Int) := by omega
      obtain ⟨t, ht⟩ : ∃ t : Nat, Hid (k0 + k = t) := ⟨_, rfl⟩
      rw [ht.out] at hb1 hb0 HF HH HO ⊢
      clear hd ho hf hh HB
      go_wp2
      go_roundw
      case rel => exact ⟨k + 1, by omega, by go_num, by rw [show k0 + (k + 1) = t + 1 by have := ht.out; omega]; go_num, HO.out, by first | exact .inr ⟨rfl, _, HF.out, HH.out⟩ | exact .inr ⟨trivial, _, HF.out, HH.out⟩⟩
      case measure => simp [intOf]; omega
    · have hk' : k = n := by omega
      subst hk'
      have HD := hide hd
      have HO := hide ho
      clear hd ho
      go_wp2
      go_ret
      refine ⟨rfl, ⟨seqL_len _ _, ?_⟩, HO.out⟩
      rcases HD.out with h0 | ⟨e, cs, hf, hh⟩
      · exact .inl h0
      · exact .inr ⟨e, cs, hh, hf.1, hf.2⟩


/-- w: the world ahead of the law; u: behind the specification's answer; v: now. -/
structure So (w u v : World) (p : Int) (a : Option Addr) (n c B hi bx : Nat) (M : Nat → List Int) (ax : Option Addr) (b1 nm : Nat) (ly : List Int) (ag : Option Addr) (bg ng : Nat) (lg : List Int) : Prop where
  old : Below w.heap.size w v
  mid : Below u.heap.size u v
  par : v.heap[w.heap.size]? = some (.cells #[.int .i64 p, .slice a n c] 24 (0, 0))
  x0 : v.heap[bx]? = some (.cells #[.int .i64 p, .slice (some ⟨B, 0, none⟩) n n] 28 (0, 0))
  net : PartF v B hi (3 * n) 50 M
  x1 : Blk v ax b1 nm ly
  g : Ob v ag bg ng lg

variable {w u v v' : World} {p : Int} {a : Option Addr} {n c B hi bx : Nat} {M : Nat → List Int} {ax : Option Addr} {b1 nm : Nat} {ly : List Int} {ag : Option Addr} {bg ng : Nat} {lg l : List Int}

theorem So.grow (h : So w u v p a n c B hi bx M ax b1 nm ly ag bg ng lg) (hb : Below v.heap.size v v') : So w u v' p a n c B hi bx M ax b1 nm ly ag bg ng lg :=
  ⟨h.old.trans (hb.mono h.old.size), h.mid.trans (hb.mono h.mid.size), keep h.par hb, keep h.x0 hb, h.net.grow hb, h.x1.grow' hb, h.g.grow hb⟩

theorem So.markN {M' : Nat → List Int} (h : So w u v p a n c B hi bx M ax b1 nm ly ag bg ng lg) (hm : PartF v' B hi (3 * n) 50 M') (hk : Keeps (B + 1) hi v v') (h1 : w.heap.size ≤ B) (h2 : u.heap.size ≤ B) (hx : hi ≤ bx) (hy : hi ≤ b1) (hg : hi ≤ bg) :
    So w u v' p a n c B hi bx M' ax b1 nm ly ag bg ng lg :=
  ⟨h.old.trans (hk.bel.mono (by omega)), h.mid.trans (hk.bel.mono (by omega)), (hk.bel.block _ (by omega)).trans h.par, (hk.top bx hx (row_lt h.x0)).trans h.x0, hm, h.x1.keeps hk hy, h.g.keeps hk hg⟩

theorem So.markX (h : So w u v p a n c B hi bx M ax b1 nm ly ag bg ng lg) (hm : Blk v' ax b1 nm l) (ho : Only b1 v v') (h1 : w.heap.size < b1) (h2 : u.heap.size ≤ b1) (hb : hi ≤ b1) (hB : B ≠ b1) (hx : bx ≠ b1) (hg : bg ≠ b1) :
    So w u v' p a n c B hi bx M ax b1 nm l ag bg ng lg :=
  ⟨h.old.trans (ho.below (by omega)), h.mid.trans (ho.below h2), (ho.block _ (by omega)).trans h.par, (ho.block _ hx).trans h.x0, h.net.only ho hb hB, hm, h.g.only ho hg⟩

theorem So.markG (h : So w u v p a n c B hi bx M ax b1 nm ly ag bg ng lg) (hm : Ob v' ag bg ng l) (ho : Only bg v v') (h1 : w.heap.size < bg) (h2 : u.heap.size ≤ bg) (hb : hi ≤ bg) (hB : B ≠ bg) (hx : bx ≠ bg) (hy : b1 ≠ bg) :
    So w u v' p a n c B hi bx M ax b1 nm ly ag bg ng l :=
  ⟨h.old.trans (ho.below (by omega)), h.mid.trans (ho.below h2), (ho.block _ (by omega)).trans h.par, (ho.block _ hx).trans h.x0, h.net.only ho hb hB, h.x1.only ho hy, hm⟩
end Go.Proofs.Ytakenobplljkbaa


/- Nets whose lists append has made: each list in a block of its own in which there may be more room, or empty; what markTransS and markNet write into one, and what heldTransS and heldNet answer. -/
namespace Go.Proofs.Ytakenobplljkbaa
open Go.RowKit

/-- Lists by their number, each that is not empty in a block of its own between lo and hi. -/
def PartG (w : World) (B lo hi n : Nat) (T : TypeId) (M : Nat → List Int) : Prop :=
  ∃ (C : Array Value) (A : Nat → Option Addr) (f cap : Nat → Nat), w.heap[B]? = some (.cells C T (0, 0)) ∧ n ≤ C.size ∧
    (∀ j, j < n → C[j]? = some (.slice (A j) (M j).length (cap j)) ∧ Ob w (A j) (f j) (M j).length (M j) ∧ (M j ≠ [] → lo ≤ f j ∧ f j < hi ∧ f j ≠ B)) ∧
    (∀ i j, i < j → j < n → M i ≠ [] → M j ≠ [] → f i ≠ f j)

theorem PartG.grow {w w' : World} {B lo hi n : Nat} {T : TypeId} {M : Nat → List Int} (h : PartG w B lo hi n T M) (hb : Below w.heap.size w w') : PartG w' B lo hi n T M := by
  obtain ⟨C, A, f, cap, h1, h2, h3, h4⟩ := h
  refine ⟨C, A, f, cap, (hb.block B (Array.getElem?_eq_some_iff.mp h1).1).trans h1, h2, fun j hj => ?_, h4⟩
  obtain ⟨e1, e2, e3⟩ := h3 j hj
  exact ⟨e1, e2.grow hb, e3⟩

theorem PartG.keeps {w w' : World} {B lo hi n lo' hi' : Nat} {T : TypeId} {M : Nat → List Int} (h : PartG w B lo hi n T M) (hk : Keeps lo' hi' w w') (h1 : hi' ≤ lo) (h2 : hi' ≤ B) : PartG w' B lo hi n T M := by
  obtain ⟨C, A, f, cap, q1, q2, q3, q4⟩ := h
  refine ⟨C, A, f, cap, (hk.top B h2 (Array.getElem?_eq_some_iff.mp q1).1).trans q1, q2, fun j hj => ?_, q4⟩
  obtain ⟨e1, e2, e3⟩ := q3 j hj
  refine ⟨e1, ?_, e3⟩
  by_cases he : M j = []
  · rw [he]; exact ⟨rfl, .inl rfl⟩
  · exact e2.keeps hk (by have := (e3 he).1; omega)

/-- The list j is marked. -/
theorem PartG.one {w : World} {B lo hi n : Nat} {T : TypeId} {M : Nat → List Int} (h : PartG w B lo hi n T M) {j : Nat} (hj : j < n) (k0 : Nat) (hl : (M j).length ≤ 1048576) (hk0 : k0 ≤ 4194304) (o : Nat) (ho : o = j) :
    ∃ a ln cp, Hid ((M j).length = ln) ∧ w.cell? ⟨B, o, none⟩ = some (.slice a ln cp) ∧ Hid (Calls Try.prog 20 #[.slice a ln cp, .int .i64 (k0 : Int)] w fun e w' => e = .returned (.int .i64 ((k0 + ln : Nat) : Int)) ∧ PartG w' B lo hi n T (updF M j (seqL k0 ln)) ∧ Keeps lo hi w w' ∧ w'.heap[B]? = w.heap[B]?) := by
  subst ho
  obtain ⟨C, A, f, cap, h1, h2, h3, h4⟩ := h
  obtain ⟨e1, e2, e3⟩ := h3 o hj
  refine ⟨A o, _, cap o, rfl, by rw [cell_of_row w B o C T _ h1]; exact e1, ?_⟩
  by_cases he : M o = []
  · -- nothing is written
    have hob : Ob w (A o) w.heap.size (M o).length (M o) := ⟨rfl, .inl (by rw [he]; rfl)⟩
    refine (markO_any (A o) w.heap.size _ (cap o) k0 (M o) w hob hl hk0).mono fun e w' ⟨q1, q2, q3⟩ => ⟨q1, ?_, ?_, ?_⟩
    · have hB := (Array.getElem?_eq_some_iff.mp h1).1
      refine ⟨C, A, f, cap, (q3.block B (by omega)).trans h1, h2, fun i hi => ?_, fun i i' hii hi' hm hm' => ?_⟩
      · obtain ⟨p1, p2, p3⟩ := h3 i hi
        unfold updF
        by_cases hio : i = o
        · subst hio
          rw [if_pos rfl, he]
          refine ⟨by rw [he] at p1; exact p1, ⟨rfl, .inl rfl⟩, fun hc => absurd rfl hc⟩
        · rw [if_neg hio]
          refine ⟨p1, ?_, p3⟩
          by_cases hmi : M i = []
          · rw [hmi]; exact ⟨rfl, .inl rfl⟩
          · rcases p2.2 with h0 | ⟨_, cur, hh, _⟩
            · exact absurd (List.length_eq_zero_iff.mp h0) hmi
            · have := (Array.getElem?_eq_some_iff.mp hh).1
              exact p2.only q3 (by omega)
      · unfold updF at hm hm'
        have hne : i ≠ o := by intro e; subst e; rw [if_pos rfl, he] at hm; exact hm rfl
        have hne' : i' ≠ o := by intro e; subst e; rw [if_pos rfl, he] at hm'; exact hm' rfl
        rw [if_neg hne] at hm
        rw [if_neg hne'] at hm'
        exact h4 i i' hii hi' hm hm'
    · exact ⟨⟨q3.os, q3.tape, q3.output, Nat.le_of_eq q3.size.symm, fun k _ => by
        by_cases hk : k = w.heap.size
        · subst hk
          rw [Array.getElem?_eq_none (xs := w'.heap) (by have := q3.size; omega), Array.getElem?_eq_none (xs := w.heap) (Nat.le_refl _)]
        · exact q3.block k hk⟩, fun k _ hk => q3.block k (by omega)⟩
    · exact q3.block B (by have := (Array.getElem?_eq_some_iff.mp h1).1; omega)
  · obtain ⟨g1, g2, g3⟩ := e3 he
    refine (markO_any (A o) (f o) _ (cap o) k0 (M o) w e2 hl hk0).mono fun e w' ⟨q1, q2, q3⟩ => ⟨q1, ?_, Keeps.of_only q3 g1 g2, q3.block B (fun e => g3 e.symm)⟩
    refine ⟨C, A, f, cap, (q3.block B (fun e => g3 e.symm)).trans h1, h2, fun i hi => ?_, fun i i' hii hi' hm hm' => ?_⟩
    · obtain ⟨p1, p2, p3⟩ := h3 i hi
      unfold updF
      by_cases hio : i = o
      · subst hio
        rw [if_pos rfl, seqL_len]
        exact ⟨p1, q2, fun _ => p3 he⟩
      · rw [if_neg hio]
        refine ⟨p1, ?_, p3⟩
        by_cases hmi : M i = []
        · rw [hmi]; exact ⟨rfl, .inl rfl⟩
        · refine p2.only q3 ?_
          rcases Nat.lt_or_gt_of_ne hio with hlt | hlt
          · exact h4 i o hlt hj hmi he
          · exact fun e => h4 o i hlt hi he hmi e.symm
    · unfold updF at hm hm'
      have hMi : M i ≠ [] := by
        by_cases hio : i = o
        · subst hio; exact he
        · rwa [if_neg hio] at hm
      have hMi' : M i' ≠ [] := by
        by_cases hio : i' = o
        · subst hio; exact he
        · rwa [if_neg hio] at hm'
      exact h4 i i' hii hi' hMi hMi'

theorem markedF_at (k0 : Nat) (M : Nat → List Int) (q : Nat) : markedF k0 M q q = M q := by unfold markedF; rw [if_neg (by omega)]

set_option maxHeartbeats 1000000 in
theorem markTrisG_any (B lo hi n c k0 : Nat) (T : TypeId) (M : Nat → List Int) (w : World) (h : PartG w B lo hi (3 * n) T M) (hs : cntF M (3 * n) ≤ 1048576) (hn : n ≤ 1048576) (hk0 : k0 ≤ 2097152) :
    Calls Try.prog 39 #[.slice (some ⟨B, 0, none⟩) n c, .int .i64 (k0 : Int)] w fun e w' => e = .returned (.int .i64 ((k0 + cntF M (3 * n) : Nat) : Int)) ∧ PartG w' B lo hi (3 * n) T (markedF k0 M (3 * n)) ∧ Keeps lo hi w w' ∧ w'.heap[B]? = w.heap[B]? := by
  have HP := hide h
  clear h
  go_enter Try.func39, Try.ntmps39
  go_wp2_with fail
  go_loopw [1, 5] (fun t i wr => ∃ k t' : Nat, k ≤ n ∧ i = .int .i64 k ∧ t = .int .i64 (t' : Int) ∧ Hid (t' = k0 + cntF M (3 * k)) ∧ Hid (PartG wr B lo hi (3 * n) T (markedF k0 M (3 * k))) ∧ Hid (Keeps lo hi w wr ∧ wr.heap[B]? = w.heap[B]?)) (fun _ i _ => n - (intOf i).toNat)
  case atStart => exact ⟨0, k0, Nat.zero_le _, rfl, rfl, rfl, by have := HP.out; exact (show markedF k0 M (3 * 0) = M from by funext j; unfold markedF; rw [if_neg (by omega)]) ▸ this, Keeps.refl _ _ _, rfl⟩
  case round =>
    obtain ⟨k, t0, hk, rfl, rfl, ht0, hp, hkp⟩ := hrel
    clear HP
    by_cases hlt : k < n
    rotate_left
    · have hk' : k = n := by omega
      subst hk'
      have HT := hide ht0.out.symm
      go_wp2_with fail
      go_ret
      exact ⟨by rw [HT.out]; rfl, hp.out, hkp.out⟩
    have HQ := hide (And.intro (cntF_mono (M := M) (show 3 * k + 1 + 1 + 1 ≤ 3 * n by omega)) (And.intro (show cntF M (3 * k + 1) = cntF M (3 * k) + (M (3 * k)).length from rfl) (And.intro (show cntF M (3 * k + 1 + 1) = cntF M (3 * k + 1) + (M (3 * k + 1)).length from rfl) (show cntF M (3 * k + 1 + 1 + 1) = cntF M (3 * k + 1 + 1) + (M (3 * k + 1 + 1)).length from rfl))))
    obtain ⟨a0, l0, cp0, hl0, hc0, HM0⟩ := hp.out.one (show 3 * k < 3 * n by omega) t0 (by rw [markedF_at]; have := HQ.out; omega) (by have := HQ.out; have := ht0.out; omega) (k * 3) (by omega)
    rw [markedF_at] at hl0
    go_wp2_with fail
    refine HM0.out.mono ?_
    rintro e w1 ⟨rfl, p1, kp1, hB1⟩
    rw [ht0.out, ← hl0.out, markedF_step] at p1
    have HK1 := hide (And.intro (hkp.out.1.trans kp1) (hB1.trans hkp.out.2))
    obtain ⟨t1, ht1⟩ : ∃ t, Hid (t0 + l0 = t) := ⟨_, rfl⟩
    rw [ht1.out]
    have HT1 : Hid (t1 = k0 + cntF M (3 * k + 1)) := by show _ = _; have := HQ.out; have := hl0.out; have := ht0.out; have := ht1.out; omega
    obtain ⟨a1, l1, cp1, hl1, hc1, HM1⟩ := p1.one (show 3 * k + 1 < 3 * n by omega) t1 (by rw [markedF_at]; have := HQ.out; omega) (by have := HQ.out; have := HT1.out; omega) (k * 3 + 1) (by omega)
    rw [markedF_at] at hl1
    clear HM0 hc0 p1 kp1 hp hkp hB1
    go_wp2_with fail
    refine HM1.out.mono ?_
    rintro e w2 ⟨rfl, p2, kp2, hB2⟩
    rw [HT1.out, ← hl1.out, markedF_step] at p2
    have HK2 := hide (And.intro (HK1.out.1.trans kp2) (hB2.trans HK1.out.2))
    obtain ⟨t2, ht2⟩ : ∃ t, Hid (t1 + l1 = t) := ⟨_, rfl⟩
    rw [ht2.out]
    have HT2 : Hid (t2 = k0 + cntF M (3 * k + 1 + 1)) := by show _ = _; have := HQ.out; have := hl1.out; have := HT1.out; have := ht2.out; omega
    obtain ⟨a2, l2, cp2, hl2, hc2, HM2⟩ := p2.one (show 3 * k + 1 + 1 < 3 * n by omega) t2 (by rw [markedF_at]; have := HQ.out; omega) (by have := HQ.out; have := HT2.out; omega) (k * 3 + 2) (by omega)
    rw [markedF_at] at hl2
    clear HM1 hc1 p2 kp2 HK1 hB2
    go_wp2_with fail
    refine HM2.out.mono ?_
    rintro e w3 ⟨rfl, p3, kp3, hB3⟩
    rw [HT2.out, ← hl2.out, markedF_step] at p3
    have HK3 := hide (And.intro (HK2.out.1.trans kp3) (hB3.trans HK2.out.2))
    have e3 : 3 * (k + 1) = 3 * k + 1 + 1 + 1 := by omega
    have HP3 : Hid (PartG w3 B lo hi (3 * n) T (markedF k0 M (3 * (k + 1)))) := by
      show PartG w3 B lo hi (3 * n) T (markedF k0 M (3 * (k + 1)))
      rw [e3]; exact p3
    obtain ⟨t3, ht3⟩ : ∃ t, Hid (t2 + l2 = t) := ⟨_, rfl⟩
    rw [ht3.out]
    have HT3 : Hid (t3 = k0 + cntF M (3 * (k + 1))) := by
      show _ = _
      rw [e3]
      have := HQ.out; have := hl2.out; have := HT2.out; have := ht3.out; omega
    clear HM2 hc2 p3 kp3 HK2 e3 hB3
    go_wp2_with fail
    go_roundw
    case rel => exact ⟨k + 1, t3, by omega, by go_num, rfl, HT3, HP3, HK3⟩
    case measure => simp [intOf]; omega

/-- A net's slice: nil where there is no transition, or a block that leads to the lists. -/
def NetG (w : World) (a : Option Addr) (B lo hi n : Nat) (M : Nat → List Int) : Prop := n = 0 ∨ (a = some ⟨B, 0, none⟩ ∧ PartG w B lo hi (3 * n) 50 M)

set_option maxHeartbeats 400000 in
theorem markTrisN_any (a : Option Addr) (B lo hi n c k0 : Nat) (M : Nat → List Int) (w : World) (h : NetG w a B lo hi n M) (hs : cntF M (3 * n) ≤ 1048576) (hn : n ≤ 1048576) (hk0 : k0 ≤ 2097152) :
    Calls Try.prog 39 #[.slice a n c, .int .i64 (k0 : Int)] w fun e w' => e = .returned (.int .i64 ((k0 + cntF M (3 * n) : Nat) : Int)) ∧ NetG w' a B lo hi n (markedF k0 M (3 * n)) ∧ Keeps lo hi w w' ∧ w'.heap[B]? = w.heap[B]? := by
  rcases h with h0 | ⟨rfl, hp⟩
  · subst h0
    go_enter Try.func39, Try.ntmps39
    go_wp2_with fail
    go_loop [1, 5] (fun t i => i = .int .i64 0 ∧ t = .int .i64 (k0 : Int)) (fun _ _ => 0)
    case atStart => exact ⟨rfl, rfl⟩
    case round =>
      obtain ⟨rfl, rfl⟩ := hrel
      go_wp2_with fail
      go_ret
      exact ⟨rfl, .inl rfl, Keeps.refl _ _ _, rfl⟩
  · refine (markTrisG_any B lo hi n c k0 _ M w hp hs hn hk0).mono fun e w' ⟨q1, q2, q3, q4⟩ => ⟨q1, .inr ⟨rfl, q2⟩, q3, q4⟩

set_option maxHeartbeats 400000 in
theorem markNetG_any (p : Int) (a : Option Addr) (B lo hi n c k0 : Nat) (M : Nat → List Int) (w : World) (h : NetG w a B lo hi n M) (hlo : lo ≤ w.heap.size) (hs : cntF M (3 * n) ≤ 1048576) (hn : n ≤ 1048576) (hk0 : k0 ≤ 2097152) :
    Calls Try.prog 14 #[.agg #[.int .i64 p, .slice a n c], .int .i64 (k0 : Int)] w fun e w' => e = .returned (.int .i64 ((k0 + cntF M (3 * n) : Nat) : Int)) ∧ NetG w' a B lo hi n (markedF k0 M (3 * n)) ∧ Keeps lo hi w w' := by
  have hA := below_al w (.cells #[.int .i64 p, .slice a n c] 28)
  have hg : NetG (w.alloc (.cells #[.int .i64 p, .slice a n c] 28)) a B lo hi n M := by
    rcases h with h0 | ⟨e, hp⟩
    · exact .inl h0
    · exact .inr ⟨e, hp.grow hA⟩
  have HT := hide (markTrisN_any a B lo hi n c k0 M _ hg hs hn hk0)
  have HK := hide (Keeps.of_below (lo := lo) (hi := hi) hA hlo)
  obtain ⟨t0, ht0⟩ : ∃ t, Hid (k0 + cntF M (3 * n) = t) := ⟨_, rfl⟩
  rw [ht0.out] at HT ⊢
  clear h hg hA
  go_enter Try.func14, Try.ntmps14
  go_wp2_with fail
  refine HT.out.mono ?_
  rintro e w3 ⟨rfl, p3, kp3, _⟩
  have HP3 := hide p3
  have HK3 := hide (HK.out.trans kp3)
  clear p3 kp3 HT HK
  go_wp2_with fail
  go_ret
  exact ⟨rfl, HP3.out, HK3.out⟩

theorem NetG.lists {w : World} {a : Option Addr} {B lo hi n : Nat} {L : List (List Int)} (h : NetG w a B lo hi n (fun j => L.getD j [])) (hl : L.length = 3 * n) (hs : sizeN n L ≤ 1048576) : Lists w a (3 * n) L := by
  rcases h with h0 | ⟨rfl, C, A, f, cap, h1, h2, h3, h4⟩
  · exact ⟨hl, .inl (by omega)⟩
  · refine ⟨hl, .inr ⟨B, 0, rfl, (Array.getElem?_eq_some_iff.mp h1).1, fun j hj => ?_⟩⟩
    obtain ⟨e1, e2, e3⟩ := h3 j hj
    refine ⟨_, _, _, by rw [cell_of_row w B (0 + j) C _ _ h1, Nat.zero_add]; exact e1, ?_, e2.row⟩
    have := len_le L j
    show (L.getD j []).length ≤ maxLen
    unfold sizeN at hs; unfold maxLen; omega

/-- Lists by their number, to be read. -/
def ListsF (w : World) (a : Option Addr) (n : Nat) (M : Nat → List Int) : Prop :=
  n = 0 ∨ ∃ b off, a = some ⟨b, off, none⟩ ∧ ∀ j, j < n → ∃ a' c', w.cell? ⟨b, off + j, none⟩ = some (.slice a' (M j).length c') ∧ Row w a' (M j).length (M j)

theorem NetG.listsF {w : World} {a : Option Addr} {B lo hi n : Nat} {M : Nat → List Int} (h : NetG w a B lo hi n M) : ListsF w a (3 * n) M := by
  rcases h with h0 | ⟨rfl, C, A, f, cap, h1, h2, h3, h4⟩
  · exact .inl (by omega)
  · refine .inr ⟨B, 0, rfl, fun j hj => ?_⟩
    obtain ⟨e1, e2, e3⟩ := h3 j hj
    exact ⟨_, _, by rw [cell_of_row w B (0 + j) C _ _ h1, Nat.zero_add]; exact e1, e2.row⟩

theorem ListsF.seq3 {w : World} {a : Option Addr} {n k0 : Nat} {M : Nat → List Int} (h : ListsF w a (3 * n) (markedF k0 M (3 * n))) {k : Nat} (hk : k < n) :
    ∃ b off a0 c0 a1 c1 a2 c2 l0 l1 l2, a = some ⟨b, off, none⟩ ∧ w.cell? ⟨b, off + k * 3, none⟩ = some (.slice a0 l0 c0) ∧ w.cell? ⟨b, off + k * 3 + 1, none⟩ = some (.slice a1 l1 c1) ∧ w.cell? ⟨b, off + k * 3 + 2, none⟩ = some (.slice a2 l2 c2) ∧
      Hid ((M (3 * k)).length = l0 ∧ (M (3 * k + 1)).length = l1 ∧ (M (3 * k + 1 + 1)).length = l2) ∧ Hid (Row w a0 l0 (seqL (k0 + cntF M (3 * k)) l0)) ∧ Hid (Row w a1 l1 (seqL (k0 + cntF M (3 * k + 1)) l1)) ∧ Hid (Row w a2 l2 (seqL (k0 + cntF M (3 * k + 1 + 1)) l2)) := by
  rcases h with h0 | ⟨b, off, e, h⟩
  · omega
  · have key : ∀ j, j < 3 * n → ∃ a' c', w.cell? ⟨b, off + j, none⟩ = some (.slice a' (M j).length c') ∧ Row w a' (M j).length (seqL (k0 + cntF M j) (M j).length) := by
      intro j hj
      obtain ⟨a', c', h1, h2⟩ := h j hj
      have hm : markedF k0 M (3 * n) j = seqL (k0 + cntF M j) (M j).length := by unfold markedF; rw [if_pos hj]
      rw [hm, seqL_len] at h1 h2
      exact ⟨a', c', h1, h2⟩
    obtain ⟨a0, c0, x0, y0⟩ := key (3 * k) (by omega)
    obtain ⟨a1, c1, x1, y1⟩ := key (3 * k + 1) (by omega)
    obtain ⟨a2, c2, x2, y2⟩ := key (3 * k + 1 + 1) (by omega)
    refine ⟨b, off, a0, c0, a1, c1, a2, c2, _, _, _, e, ?_, ?_, ?_, ⟨rfl, rfl, rfl⟩, y0, y1, y2⟩
    · rw [Nat.mul_comm k 3]; exact x0
    · rw [Nat.mul_comm k 3]; exact x1
    · rw [Nat.mul_comm k 3]; exact x2

set_option maxHeartbeats 1000000 in
theorem heldTris_any (a : Option Addr) (n c k0 : Nat) (M : Nat → List Int) (w : World) (h : ListsF w a (3 * n) (markedF k0 M (3 * n))) (hs : cntF M (3 * n) ≤ 1048576) (hn : n ≤ 1048576) (hk0 : k0 ≤ 2097152) :
    Calls Try.prog 40 #[.slice a n c, .int .i64 (k0 : Int)] w fun e w' => e = .returned (.int .i64 ((k0 + cntF M (3 * n) : Nat) : Int)) ∧ w' = w := by
  have HL := hide h
  clear h
  go_enter Try.func40, Try.ntmps40
  go_wp2_with fail
  go_loop [1, 5] (fun t i => ∃ k t' : Nat, k ≤ n ∧ i = .int .i64 k ∧ t = .int .i64 (t' : Int) ∧ Hid (t' = k0 + cntF M (3 * k))) (fun _ i => n - (intOf i).toNat)
  case atStart => exact ⟨0, k0, Nat.zero_le _, rfl, rfl, rfl⟩
  case round =>
    obtain ⟨k, t0, hk, rfl, rfl, ht0⟩ := hrel
    by_cases hlt : k < n
    rotate_left
    · have hk' : k = n := by omega
      subst hk'
      have HT := hide ht0.out.symm
      go_wp2_with fail
      go_ret
      exact ⟨ret_int (by have := HT.out; omega), rfl⟩
    have HQ := hide (And.intro (cntF_mono (M := M) (show 3 * k + 1 + 1 + 1 ≤ 3 * n by omega)) (And.intro (show cntF M (3 * k + 1) = cntF M (3 * k) + (M (3 * k)).length from rfl) (And.intro (show cntF M (3 * k + 1 + 1) = cntF M (3 * k + 1) + (M (3 * k + 1)).length from rfl) (show cntF M (3 * k + 1 + 1 + 1) = cntF M (3 * k + 1 + 1) + (M (3 * k + 1 + 1)).length from rfl))))
    obtain ⟨b, off, a0, c0, a1, c1, a2, c2, l0, l1, l2, rfl, hc0, hc1, hc2, hl, r0, r1, r2⟩ := HL.out.seq3 hlt
    have HM0 := hide (held_any a0 l0 c0 t0 w (by have := ht0.out; rw [this]; exact r0.out) (by have := HQ.out; have := hl.out; omega) (by have := HQ.out; have := ht0.out; omega))
    obtain ⟨t1, ht1⟩ : ∃ t, Hid (t0 + l0 = t) := ⟨_, rfl⟩
    have HT1 : Hid (t1 = k0 + cntF M (3 * k + 1)) := by show _ = _; have := HQ.out; have := hl.out; have := ht0.out; have := ht1.out; omega
    have HM1 := hide (held_any a1 l1 c1 t1 w (by have := HT1.out; rw [this]; exact r1.out) (by have := HQ.out; have := hl.out; omega) (by have := HQ.out; have := HT1.out; omega))
    obtain ⟨t2, ht2⟩ : ∃ t, Hid (t1 + l1 = t) := ⟨_, rfl⟩
    have HT2 : Hid (t2 = k0 + cntF M (3 * k + 1 + 1)) := by show _ = _; have := HQ.out; have := hl.out; have := HT1.out; have := ht2.out; omega
    have HM2 := hide (held_any a2 l2 c2 t2 w (by have := HT2.out; rw [this]; exact r2.out) (by have := HQ.out; have := hl.out; omega) (by have := HQ.out; have := HT2.out; omega))
    obtain ⟨t3, ht3⟩ : ∃ t, Hid (t2 + l2 = t) := ⟨_, rfl⟩
    have HT3 : Hid (t3 = k0 + cntF M (3 * (k + 1))) := by
      show _ = _
      rw [show 3 * (k + 1) = 3 * k + 1 + 1 + 1 by omega]
      have := HQ.out; have := hl.out; have := HT2.out; have := ht3.out; omega
    rw [ht1.out] at HM0
    rw [ht2.out] at HM1
    rw [ht3.out] at HM2
    have hp1 : (0 : Int) ≤ (t1 : Int) := by omega
    have hp2 : (0 : Int) ≤ (t2 : Int) := by omega
    have hp3 : (0 : Int) ≤ (t3 : Int) := by omega
    clear hl r0 r1 r2 HQ
    go_wp2_with fail
    refine HM0.out.mono ?_
    rintro e w' ⟨rfl, rfl⟩
    go_wp2_with fail
    refine HM1.out.mono ?_
    rintro e w' ⟨rfl, rfl⟩
    go_wp2_with fail
    refine HM2.out.mono ?_
    rintro e w' ⟨rfl, rfl⟩
    go_wp2_with fail
    go_round
    case rel => exact ⟨k + 1, t3, by omega, by go_num, rfl, HT3⟩
    case measure => simp [intOf]; omega

set_option maxHeartbeats 400000 in
theorem heldNet_any (p : Int) (a : Option Addr) (B lo hi n c k0 : Nat) (M : Nat → List Int) (w : World) (h : NetG w a B lo hi n (markedF k0 M (3 * n))) (hs : cntF M (3 * n) ≤ 1048576) (hn : n ≤ 1048576) (hk0 : k0 ≤ 2097152) :
    Calls Try.prog 15 #[.agg #[.int .i64 p, .slice a n c], .int .i64 (k0 : Int)] w fun e w' => e = .returned (.int .i64 ((k0 + cntF M (3 * n) : Nat) : Int)) ∧ Below w.heap.size w w' := by
  have hA := below_al w (.cells #[.int .i64 p, .slice a n c] 28)
  have hg : NetG (w.alloc (.cells #[.int .i64 p, .slice a n c] 28)) a B lo hi n (markedF k0 M (3 * n)) := by
    rcases h with h0 | ⟨e, hp⟩
    · exact .inl h0
    · exact .inr ⟨e, hp.grow hA⟩
  have HT := hide (heldTris_any a n c k0 M _ hg.listsF hs hn hk0)
  obtain ⟨t0, ht0⟩ : ∃ t, Hid (k0 + cntF M (3 * n) = t) := ⟨_, rfl⟩
  rw [ht0.out] at HT ⊢
  have hp0 : (0 : Int) ≤ (t0 : Int) := by omega
  clear h hg hA
  go_enter Try.func15, Try.ntmps15
  go_wp2_with fail
  refine HT.out.mono ?_
  rintro e w3 ⟨rfl, rfl⟩
  go_wp2_with fail
  go_ret
  exact ⟨rfl, below_al _ _⟩
end Go.Proofs.Ytakenobplljkbaa


/- The list of a set of places: list of the program. -/
namespace Go.Proofs.Ytakenobplljkbaa
open Go.RowKit

/-- The numbers below k that are as asked. -/
def nums2 (f : Nat → Bool) (k : Nat) : List Int := ((List.range k).filter f).map fun (i : Nat) => (i : Int)

theorem nums2_yes {f : Nat → Bool} {k : Nat} (h : f k = true) : nums2 f (k + 1) = nums2 f k ++ [(k : Int)] := by simp [nums2, List.range_succ, List.filter_append, h]
theorem nums2_no {f : Nat → Bool} {k : Nat} (h : f k = false) : nums2 f (k + 1) = nums2 f k := by simp [nums2, List.range_succ, List.filter_append, h]

theorem own_below2 {B : Nat} {w w' : World} {v : Value} {n : Nat} {l : List Value} (hown : w.ownsRow B 3 1 v n l) (hg : w.grownBy w' v.ownBlock) {a : World} {C : Nat} (h : Below C a w) (hC : C ≤ w.heap.size) (hB : C ≤ B) : Below C a w' := by
  refine h.grown hg hC fun k hk => ?_
  rcases hown.2 with ⟨rfl, _⟩ | ⟨g, cap, cur, rfl, hb, _⟩
  · simp [Value.ownBlock] at hk
  · simp [Value.ownBlock] at hk; omega

theorem one_cell2 (w : World) (v : Value) : ∀ j u, ([v] : List Value)[j]? = some u → (w.alloc (.cells #[v] 3)).cell? ((⟨w.heap.size, 0, none⟩ : Addr).add j) = some u := by
  intro j u hu
  match j, hu with
  | 0, hu =>
    simp at hu; subst hu
    rw [Addr.add_mid]
    exact cell_of_row _ w.heap.size 0 #[v] _ _ (heap_alloc_new _ _)
  | (q + 1), hu => simp at hu

theorem own_ob2 {B : Nat} {w : World} {v : Value} {n : Nat} {l : List Int} (hown : w.ownsRow B 3 1 v n (l.map (Value.int .i64))) : ∃ a b c, v = .slice a n c ∧ B ≤ b ∧ Ob w a b n l := by
  have hl : l.length = n := by have := hown.1; simpa using this
  rcases hown.2 with ⟨rfl, rfl⟩ | ⟨g, cap, cur, rfl, hb, hh, hnc, _, hsz, ht⟩
  · exact ⟨none, B, 0, rfl, Nat.le_refl _, hl, .inl rfl⟩
  · refine ⟨_, g, cap, rfl, hb, hl, .inr ⟨rfl, cur, hh, by omega, fun i hi => ?_⟩⟩
    have e : (cur.toList.take (n * 1))[i]? = (l.map (Value.int .i64))[i]? := by rw [ht]
    rw [List.getElem?_take_of_lt (by omega), Array.getElem?_toList] at e
    rw [e]
    simp [List.getElem?_eq_getElem (show i < l.length by omega)]

theorem info_split2 {P : Program} {e : TypeId} {z : Value} {size bytes : Nat} (h : (P.info? e).map (fun i => (i.zero, i.size, i.bytes)) = some (some z, size, bytes)) : ∃ i, P.info? e = some i ∧ i.zero = some z ∧ i.size = size ∧ i.bytes = bytes := by
  obtain ⟨i, hi, hzz⟩ := Option.map_eq_some_iff.1 h
  simp only [Prod.mk.injEq] at hzz
  exact ⟨i, hi, hzz.1, hzz.2.1, hzz.2.2⟩

theorem bit_of2 (s k : Nat) (hs : s < 2 ^ 16) : (bits .and .u16 ((s : Int) / 2 ^ k) 1 == 1) = s.testBit k := by
  have h1 : ((s : Int) / 2 ^ k) = ((s / 2 ^ k : Nat) : Int) := by simp
  have h2 : s / 2 ^ k < 2 ^ 16 := Nat.lt_of_le_of_lt (Nat.div_le_self _ _) hs
  have h3 := and_u16 (s / 2 ^ k) 1 h2 (by decide)
  rw [h1]
  rw [show ((1 : Nat) : Int) = (1 : Int) from rfl] at h3
  rw [h3, Nat.and_one_is_mod, Nat.testBit_eq_decide_div_mod_eq]
  by_cases h : s / 2 ^ k % 2 = 1
  · rw [h]; rfl
  · have h4 : s / 2 ^ k % 2 = 0 := by omega
    rw [h4]; rfl

set_option maxHeartbeats 400000 in
theorem has2_any (s k : Nat) (w : World) (hs : s < 2 ^ 16) (hk : k < 16) :
    Calls Try.prog 66 #[.int .u16 (s : Int), .int .i64 (k : Int)] w fun e w' => e = .returned (.bool (s.testBit k)) ∧ w' = w := by
  have hk0 : (0 : Int) ≤ (k : Int) := by omega
  have HB := hide (bit_of2 s k hs)
  go_enter Try.func66, Try.ntmps66
  go_wp2_with fail
  go_ret
  exact ⟨ret_bool HB.out, rfl⟩

/-- The places of a rising list are its bits. -/
theorem nums2_mask {p : Int} {xs : List Int} (hp : p ≤ 16) (h : riseB xs 0 (p - 1) = true) : nums2 (maskL xs).testBit 16 = xs := by
  have hm := fun z hz => riseB_mem h z hz
  have key : ∀ z, z ∈ nums2 (maskL xs).testBit 16 ↔ z ∈ xs := by
    intro z
    unfold nums2
    simp only [List.mem_map, List.mem_filter, List.mem_range]
    constructor
    · rintro ⟨i, ⟨_, hb⟩, rfl⟩
      rw [maskL_bit _ _ (fun z hz => (hm z hz).1)] at hb
      simpa using hb
    · intro hz
      have := hm z hz
      refine ⟨z.toNat, ⟨by omega, ?_⟩, by omega⟩
      rw [maskL_bit _ _ (fun z hz => (hm z hz).1), Int.toNat_of_nonneg this.1]
      simpa using hz
  have hrise : ∀ (f : Nat → Bool) (n : Nat), riseB (nums2 f n) 0 ((n : Int) - 1) = true := by
    intro f n
    induction n with
    | zero => rfl
    | succ n ih =>
      have hup : ∀ (ys : List Int) (lo hi hi' : Int), hi ≤ hi' → riseB ys lo hi = true → riseB ys lo hi' = true := by
        intro ys
        induction ys with
        | nil => intros; rfl
        | cons y r ihr =>
          intro lo hi hi' hh hr
          simp only [riseB, Bool.and_eq_true, decide_eq_true_eq] at hr ⊢
          exact ⟨⟨hr.1.1, by omega⟩, ihr _ _ _ hh hr.2⟩
      by_cases hf : f n = true
      · rw [nums2_yes hf, riseB_append, hup _ _ _ _ (by omega) ih]
        simp only [Bool.true_and, riseB, Bool.and_true, Bool.and_eq_true, decide_eq_true_eq]
        refine ⟨?_, by omega⟩
        cases hg : (nums2 f n).getLast? with
        | none => simp
        | some z =>
          have hz := List.mem_of_getLast? hg
          have := riseB_mem ih z hz
          simp; omega
      · have hf' : f n = false := by simpa using hf
        rw [nums2_no hf']
        exact hup _ _ _ _ (by omega) ih
  have hext : ∀ (ys zs : List Int) (lo hi : Int), riseB ys lo hi = true → riseB zs lo hi = true → (∀ z, z ∈ ys ↔ z ∈ zs) → ys = zs := by
    intro ys
    induction ys with
    | nil =>
      intro zs lo hi _ _ hh
      cases zs with
      | nil => rfl
      | cons y r => have := (hh y).mpr (by simp); simp at this
    | cons x r ih =>
      intro zs lo hi hx hy hh
      cases zs with
      | nil => have := (hh x).mp (by simp); simp at this
      | cons y s =>
        simp [riseB] at hx hy
        have hxm := riseB_mem hx.2
        have hym := riseB_mem hy.2
        have e : x = y := by
          have h1 := (hh x).mp (by simp)
          have h2 := (hh y).mpr (by simp)
          rcases List.mem_cons.mp h1 with e | h1
          · exact e
          · rcases List.mem_cons.mp h2 with e | h2
            · exact e.symm
            · have := hym x h1; have := hxm y h2; omega
        subst e
        congr 1
        refine ih s _ _ hx.2 hy.2 fun z => ?_
        have hz := hh z
        simp only [List.mem_cons] at hz
        constructor
        · intro hm
          rcases hz.mp (.inr hm) with e | hm'
          · have := hxm z hm; omega
          · exact hm'
        · intro hm
          rcases hz.mpr (.inr hm) with e | hm'
          · have := hym z hm; omega
          · exact hm'
  have hup2 : riseB xs 0 15 = true := by
    have : ∀ (ys : List Int) (lo hi hi' : Int), hi ≤ hi' → riseB ys lo hi = true → riseB ys lo hi' = true := by
      intro ys
      induction ys with
      | nil => intros; rfl
      | cons y r ihr =>
        intro lo hi hi' hh hr
        simp only [riseB, Bool.and_eq_true, decide_eq_true_eq] at hr ⊢
        exact ⟨⟨hr.1.1, by omega⟩, ihr _ _ _ hh hr.2⟩
    exact this xs 0 (p - 1) 15 (by omega) h
  exact hext _ _ 0 15 (hrise _ 16) hup2 key

set_option maxHeartbeats 1000000 in
theorem setList_any (s : Nat) (w : World) (hs : s < 2 ^ 16) :
    Calls Try.prog 36 #[.int .u16 (s : Int)] w fun e w' => ∃ a b m c, e = .returned (.slice a m c) ∧ w.heap.size ≤ b ∧ Ob w' a b m (nums2 s.testBit 16) ∧ Below w.heap.size w w' := by
  obtain ⟨i0, hi, hz0, hz1, hz2⟩ := info_split2 Try.info3
  go_enter Try.func36, Try.ntmps36
  go_wp2_with fail
  go_loopw [3, 5] (fun o i wr => ∃ k m : Nat, k ≤ 16 ∧ i = .int .i64 k ∧ Hid (m ≤ k) ∧ Hid (wr.ownsRow w.heap.size 3 1 o m ((nums2 s.testBit k).map (Value.int .i64))) ∧ Hid (Below w.heap.size w wr)) (fun _ i _ => 16 - (intOf i).toNat)
  case atStart => exact ⟨0, 0, Nat.zero_le _, rfl, Nat.le_refl _, World.ownsRow_nil _ _ _ _, Below.refl _ _⟩
  case round =>
    obtain ⟨k, m, hk, rfl, hmk, hown, hbw⟩ := hrel
    by_cases hlt : k < 16
    rotate_left
    · have hk' : k = 16 := by omega
      subst hk'
      obtain ⟨av, bv, cv, hv, hbv, hob⟩ := own_ob2 hown.out
      subst hv
      have HE := hide (And.intro hbv (And.intro hob hbw.out))
      clear hown hob hbv
      go_wp2_with fail
      go_ret
      exact ⟨av, bv, m, cv, rfl, HE.out⟩
    have hi1 : ((k : Int)) < 16 := by omega
    cases hh : s.testBit k
    · have HN := hide (nums2_no hh)
      go_wp2_with (go_at_call 66; refine (has2_any s k _ hs hlt).mono ?_; rintro e w' ⟨rfl, rfl⟩)
      go_roundw
      case rel => exact ⟨k + 1, m, by omega, by go_num, Nat.le_succ_of_le hmk.out, by rw [HN.out]; exact hown, hbw⟩
      case measure => simp [intOf]; omega
    have HN := hide (nums2_yes hh)
    have hA2 := below_al wr (.cells #[.int .i64 (k : Int)] 3)
    have HO2 := hide (hown.out.alloc (.cells #[.int .i64 (k : Int)] 3))
    have HB2 := hide (hbw.out.trans (hA2.mono hbw.out.size))
    have HCE : Hid (∀ j u, ([.int .i64 (k : Int)] : List Value)[j]? = some u → (wr.alloc (.cells #[.int .i64 (k : Int)] 3)).cell? ((⟨wr.heap.size, 0, none⟩ : Addr).add j) = some u) := one_cell2 wr _
    have H1c : Hid (∀ u ∈ ([.int .i64 (k : Int)] : List Value), u.oneCell' = true) := fun u hu => by simp at hu; subst hu; rfl
    have HX := hide (show m + 1 ≤ maxLen by have := hmk.out; unfold maxLen; omega)
    have HY := hide (show (m + 1) * 8 ≤ 140737488355328 by have := hmk.out; omega)
    have HZ := hide HB2.out.size
    clear hA2 hown hbw
    go_wp2_with (first
      | (go_at_call 66; refine (has2_any s k _ hs hlt).mono ?_; rintro e w' ⟨rfl, rfl⟩)
      | (refine wpList_append_own _ rfl (.tmp 11) (.tmp 13) 35 rfl w.heap.size 3 i0 (.int .i64 0) 1 8 Try.underlying35 hi hz0 hz1 hz2 rfl (by decide) u3 m _ rfl HO2.out ⟨_, 0, none⟩ 1 1 [.int .i64 (k : Int)] rfl rfl HCE.out H1c.out HX.out HY.out HZ.out ?_; intro v' W' r1 r2 r3))
    have HR1 : Hid (W'.ownsRow w.heap.size 3 1 v' (m + 1) ((nums2 s.testBit (k + 1)).map (Value.int .i64))) := by
      show World.ownsRow _ _ _ _ _ _ _
      rw [HN.out, List.map_append]; exact r1
    have HB3 := hide (own_below2 HO2.out r2 HB2.out HB2.out.size (Nat.le_refl _))
    clear r1 r2 r3
    go_wp2_with fail
    go_roundw
    case rel => exact ⟨k + 1, m + 1, by omega, by go_num, Nat.succ_le_succ hmk.out, HR1, HB3⟩
    case measure => simp [intOf]; omega
end Go.Proofs.Ytakenobplljkbaa
