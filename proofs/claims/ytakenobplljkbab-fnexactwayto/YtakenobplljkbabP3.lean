/- Contracts that the proof stands on, one behind the other. -/
import Derived.Test.YtakenobplljkbabP2
import Derived.WalkKit
import Derived.ProofKit
import Derived.OpenShut
import Derived.ChangeOld
import Derived.Below
import Derived.OwnWalk
import Derived.Deep.RegionHeld3
import Derived.Deep.MidRow
/- What markTransS and markNet write: the lists of a net that lies in blocks of its own, one behind the other; nothing else. -/
namespace Go.Proofs.Ytakenobplljkbab
open Go.RowKit

/-- Lists by their number, each in a block of its own between B and hi. -/
def PartF (w : World) (B hi n : Nat) (T : TypeId) (M : Nat → List Int) : Prop :=
  ∃ (C : Array Value) (f : Nat → Nat), w.heap[B]? = some (.cells C T (0, 0)) ∧ C.size = n ∧
    (∀ j, j < n → C[j]? = some (.slice (some ⟨f j, 0, none⟩) (M j).length (M j).length) ∧ B < f j ∧ f j < hi ∧ Blk w (some ⟨f j, 0, none⟩) (f j) (M j).length (M j)) ∧
    (∀ i j, i < j → j < n → f i < f j)

theorem PartL.bound {w : World} {B n : Nat} {T : TypeId} {L : List (List Int)} (h : PartL w B n n T L) : PartF w B w.heap.size n T (fun j => L.getD j []) := by
  obtain ⟨C, f, h1, h2, h3, h4⟩ := h
  refine ⟨C, f, h1, h2, fun j hj => ?_, h4⟩
  obtain ⟨e1, e2, e3⟩ := h3 j hj
  exact ⟨e1, e2, (Array.getElem?_eq_some_iff.mp e3).1, rfl, .inr ⟨rfl, e3⟩⟩

/-- Below lo all stands, and from hi on what was there. -/
structure Keeps (lo hi : Nat) (w w' : World) : Prop where
  bel : Below lo w w'
  top : ∀ k, hi ≤ k → k < w.heap.size → w'.heap[k]? = w.heap[k]?

theorem Keeps.refl (lo hi : Nat) (w : World) : Keeps lo hi w w := ⟨Below.refl _ _, fun _ _ _ => rfl⟩
theorem Keeps.trans {lo hi : Nat} {u v w : World} (h : Keeps lo hi u v) (g : Keeps lo hi v w) : Keeps lo hi u w :=
  ⟨h.bel.trans g.bel, fun k h1 h2 => (g.top k h1 (Nat.lt_of_lt_of_le h2 h.bel.size)).trans (h.top k h1 h2)⟩
theorem Keeps.of_only {lo hi b : Nat} {w w' : World} (h : Only b w w') (h1 : lo ≤ b) (h2 : b < hi) : Keeps lo hi w w' :=
  ⟨h.below h1, fun k hk _ => h.block k (by omega)⟩
theorem Keeps.of_below {lo hi : Nat} {w w' : World} (h : Below w.heap.size w w') (hl : lo ≤ w.heap.size) : Keeps lo hi w w' :=
  ⟨h.mono hl, fun k _ hk => h.block k hk⟩

theorem Blk.keeps {w w' : World} {a : Option Addr} {b n lo hi : Nat} {xs : List Int} (h : Blk w a b n xs) (hk : Keeps lo hi w w') (hb : hi ≤ b) : Blk w' a b n xs := by
  refine ⟨h.1, ?_⟩
  rcases h.2 with h0 | ⟨e, hh⟩
  · exact .inl h0
  · exact .inr ⟨e, (hk.top b hb (Array.getElem?_eq_some_iff.mp hh).1).trans hh⟩

theorem Blk.grow' {w w' : World} {a : Option Addr} {b n : Nat} {xs : List Int} (h : Blk w a b n xs) (hb : Below w.heap.size w w') : Blk w' a b n xs := by
  refine ⟨h.1, ?_⟩
  rcases h.2 with h0 | ⟨e, hh⟩
  · exact .inl h0
  · exact .inr ⟨e, (hb.block b (Array.getElem?_eq_some_iff.mp hh).1).trans hh⟩

theorem PartF.grow {w w' : World} {B hi n : Nat} {T : TypeId} {M : Nat → List Int} (h : PartF w B hi n T M) (hb : Below w.heap.size w w') : PartF w' B hi n T M := by
  obtain ⟨C, f, h1, h2, h3, h4⟩ := h
  refine ⟨C, f, (hb.block B (Array.getElem?_eq_some_iff.mp h1).1).trans h1, h2, fun j hj => ?_, h4⟩
  obtain ⟨e1, e2, e3, e4⟩ := h3 j hj
  exact ⟨e1, e2, e3, e4.grow' hb⟩

def updF (M : Nat → List Int) (j : Nat) (l : List Int) : Nat → List Int := fun i => if i = j then l else M i

theorem PartF.one {w : World} {B hi n : Nat} {T : TypeId} {M : Nat → List Int} (h : PartF w B hi n T M) {j : Nat} (hj : j < n) :
    ∃ b, w.cell? ⟨B, j, none⟩ = some (.slice (some ⟨b, 0, none⟩) (M j).length (M j).length) ∧ B < b ∧ b < hi ∧ Blk w (some ⟨b, 0, none⟩) b (M j).length (M j) ∧
      ∀ w' l, Blk w' (some ⟨b, 0, none⟩) b (M j).length l → Only b w w' → PartF w' B hi n T (updF M j l) := by
  obtain ⟨C, f, h1, h2, h3, h4⟩ := h
  obtain ⟨e1, e2, e3, e4⟩ := h3 j hj
  refine ⟨f j, by rw [cell_of_row w B j C T _ h1]; exact e1, e2, e3, e4, fun w' l hb ho => ?_⟩
  refine ⟨C, f, (ho.block B (by omega)).trans h1, h2, fun i hi' => ?_, h4⟩
  unfold updF
  by_cases hij : i = j
  · subst hij
    rw [if_pos rfl, hb.1]
    exact ⟨e1, e2, e3, hb⟩
  · rw [if_neg hij]
    obtain ⟨q1, q2, q3, q4⟩ := h3 i hi'
    have hne : f i ≠ f j := by
      rcases Nat.lt_or_gt_of_ne hij with h | h
      · have := h4 i j h hj; omega
      · have := h4 j i h hi'; omega
    exact ⟨q1, q2, q3, q4.only ho hne⟩

/-- How much the first k lists hold. -/
def cntF (M : Nat → List Int) : Nat → Nat
  | 0 => 0
  | k + 1 => cntF M k + (M k).length

theorem cntF_congr {M N : Nat → List Int} {k : Nat} (h : ∀ j, j < k → (M j).length = (N j).length) : cntF M k = cntF N k := by
  induction k with
  | zero => rfl
  | succ k ih => simp only [cntF]; rw [ih fun j hj => h j (by omega), h k (by omega)]

theorem cntF_mono {M : Nat → List Int} {j k : Nat} (h : j ≤ k) : cntF M j ≤ cntF M k := by
  induction k with
  | zero => have : j = 0 := by omega
            subst this; exact Nat.le_refl _
  | succ k ih =>
    by_cases e : j = k + 1
    · subst e; exact Nat.le_refl _
    · have := ih (by omega); simp only [cntF]; omega

/-- The first q lists are marked, from k0 on. -/
def markedF (k0 : Nat) (M : Nat → List Int) (q : Nat) : Nat → List Int := fun j => if j < q then seqL (k0 + cntF M j) (M j).length else M j

theorem markedF_len (k0 : Nat) (M : Nat → List Int) (q j : Nat) : (markedF k0 M q j).length = (M j).length := by
  unfold markedF; split
  · exact seqL_len _ _
  · rfl

theorem markedF_step (k0 : Nat) (M : Nat → List Int) (q : Nat) : updF (markedF k0 M q) q (seqL (k0 + cntF M q) (M q).length) = markedF k0 M (q + 1) := by
  funext j
  unfold updF markedF
  by_cases e : j = q
  · subst e; rw [if_pos rfl, if_pos (by omega)]
  · rw [if_neg e]
    by_cases h : j < q
    · rw [if_pos h, if_pos (by omega)]
    · rw [if_neg h, if_neg (by omega)]

theorem mark_step {w : World} {B hi n k0 q : Nat} {T : TypeId} {M : Nat → List Int} (h : PartF w B hi n T (markedF k0 M q)) (hq : q < n) (o : Nat) (ho : o = q) :
    ∃ b ln, Hid ((M q).length = ln) ∧ w.cell? ⟨B, o, none⟩ = some (.slice (some ⟨b, 0, none⟩) ln ln) ∧ Hid (Blk w (some ⟨b, 0, none⟩) b ln (M q)) ∧
      Hid (∀ w', Blk w' (some ⟨b, 0, none⟩) b ln (seqL (k0 + cntF M q) ln) → Only b w w' → PartF w' B hi n T (markedF k0 M (q + 1)) ∧ Keeps (B + 1) hi w w') := by
  obtain ⟨b, h1, h2, h3, h4, h5⟩ := h.one hq
  have e : markedF k0 M q q = M q := by unfold markedF; rw [if_neg (by omega)]
  rw [e] at h1 h4 h5
  subst ho
  refine ⟨b, _, rfl, h1, h4, fun w' hb ho => ⟨?_, Keeps.of_only ho (by omega) h3⟩⟩
  have := h5 w' _ hb ho
  rwa [markedF_step] at this

set_option maxHeartbeats 1000000 in
theorem markTris_any (B hi n c k0 : Nat) (T : TypeId) (M : Nat → List Int) (w : World) (h : PartF w B hi (3 * n) T M) (hs : cntF M (3 * n) ≤ 1048576) (hn : n ≤ 1048576) (hk0 : k0 ≤ 2097152) :
    Calls Try.prog 30 #[.slice (some ⟨B, 0, none⟩) n c, .int .i64 (k0 : Int)] w fun e w' => e = .returned (.int .i64 ((k0 + cntF M (3 * n) : Nat) : Int)) ∧ PartF w' B hi (3 * n) T (markedF k0 M (3 * n)) ∧ Keeps (B + 1) hi w w' := by
  have HP := hide h
  clear h
  go_enter Try.func30, Try.ntmps30
  go_wp2_with fail
  go_loopw [1, 5] (fun t i wr => ∃ k t' : Nat, k ≤ n ∧ i = .int .i64 k ∧ t = .int .i64 (t' : Int) ∧ Hid (t' = k0 + cntF M (3 * k)) ∧ Hid (PartF wr B hi (3 * n) T (markedF k0 M (3 * k))) ∧ Hid (Keeps (B + 1) hi w wr)) (fun _ i _ => n - (intOf i).toNat)
  case atStart => exact ⟨0, k0, Nat.zero_le _, rfl, rfl, rfl, by have := HP.out; exact (show markedF k0 M (3 * 0) = M from by funext j; unfold markedF; rw [if_neg (by omega)]) ▸ this, Keeps.refl _ _ _⟩
  case round =>
    obtain ⟨k, t0, hk, rfl, rfl, ht0, hp, hkp⟩ := hrel
    clear HP
    by_cases hlt : k < n
    rotate_left
    · have hk' : k = n := by omega
      subst hk'
      have HT := hide ht0.out.symm
      go_wp2_with fail
      go_ret
      exact ⟨by rw [HT.out]; rfl, hp.out, hkp.out⟩
    have HQ := hide (And.intro (cntF_mono (M := M) (show 3 * k + 1 + 1 + 1 ≤ 3 * n by omega)) (And.intro (show cntF M (3 * k + 1) = cntF M (3 * k) + (M (3 * k)).length from rfl) (And.intro (show cntF M (3 * k + 1 + 1) = cntF M (3 * k + 1) + (M (3 * k + 1)).length from rfl) (show cntF M (3 * k + 1 + 1 + 1) = cntF M (3 * k + 1 + 1) + (M (3 * k + 1 + 1)).length from rfl))))
    obtain ⟨b0, l0, hl0, hc0, hb0, st0⟩ := mark_step hp.out (show 3 * k < 3 * n by omega) (k * 3) (by omega)
    have HM0 := hide (mark_any _ b0 _ l0 t0 _ wr hb0.out (by have := HQ.out; have := hl0.out; omega) (by have := HQ.out; have := ht0.out; omega))
    go_wp2_with fail
    refine HM0.out.mono ?_
    rintro e w1 ⟨rfl, hbk, ho⟩
    rw [ht0.out] at hbk
    obtain ⟨p1, kp1⟩ := st0.out w1 hbk ho
    have HK1 := hide (hkp.out.trans kp1)
    obtain ⟨t1, ht1⟩ : ∃ t, Hid (t0 + l0 = t) := ⟨_, rfl⟩
    rw [ht1.out]
    have HT1 : Hid (t1 = k0 + cntF M (3 * k + 1)) := by show _ = _; have := HQ.out; have := hl0.out; have := ht0.out; have := ht1.out; omega
    obtain ⟨b1, l1, hl1, hc1, hb1, st1⟩ := mark_step p1 (show 3 * k + 1 < 3 * n by omega) (k * 3 + 1) (by omega)
    have HM1 := hide (mark_any _ b1 _ l1 t1 _ w1 hb1.out (by have := HQ.out; have := hl1.out; omega) (by have := HQ.out; have := HT1.out; omega))
    clear st0 HM0 hc0 hbk ho p1 kp1 hp hkp hb0
    go_wp2_with fail
    refine HM1.out.mono ?_
    rintro e w2 ⟨rfl, hbk, ho⟩
    rw [HT1.out] at hbk
    obtain ⟨p2, kp2⟩ := st1.out w2 hbk ho
    have HK2 := hide (HK1.out.trans kp2)
    obtain ⟨t2, ht2⟩ : ∃ t, Hid (t1 + l1 = t) := ⟨_, rfl⟩
    rw [ht2.out]
    have HT2 : Hid (t2 = k0 + cntF M (3 * k + 1 + 1)) := by show _ = _; have := HQ.out; have := hl1.out; have := HT1.out; have := ht2.out; omega
    obtain ⟨b2, l2, hl2, hc2, hb2, st2⟩ := mark_step p2 (show 3 * k + 1 + 1 < 3 * n by omega) (k * 3 + 2) (by omega)
    have HM2 := hide (mark_any _ b2 _ l2 t2 _ w2 hb2.out (by have := HQ.out; have := hl2.out; omega) (by have := HQ.out; have := HT2.out; omega))
    clear st1 HM1 hc1 hbk ho p2 kp2 HK1 hb1
    go_wp2_with fail
    refine HM2.out.mono ?_
    rintro e w3 ⟨rfl, hbk, ho⟩
    rw [HT2.out] at hbk
    obtain ⟨p3, kp3⟩ := st2.out w3 hbk ho
    have HK3 := hide (HK2.out.trans kp3)
    have e3 : 3 * (k + 1) = 3 * k + 1 + 1 + 1 := by omega
    have HP3 : Hid (PartF w3 B hi (3 * n) T (markedF k0 M (3 * (k + 1)))) := by
      show PartF w3 B hi (3 * n) T (markedF k0 M (3 * (k + 1)))
      rw [e3]; exact p3
    obtain ⟨t3, ht3⟩ : ∃ t, Hid (t2 + l2 = t) := ⟨_, rfl⟩
    rw [ht3.out]
    have HT3 : Hid (t3 = k0 + cntF M (3 * (k + 1))) := by
      show _ = _
      rw [e3]
      have := HQ.out; have := hl2.out; have := HT2.out; have := ht3.out; omega
    clear st2 HM2 hc2 hbk ho p3 kp3 HK2 e3 hb2
    go_wp2_with fail
    go_roundw
    case rel => exact ⟨k + 1, t3, by omega, by go_num, rfl, HT3, HP3, HK3⟩
    case measure => simp [intOf]; omega

set_option maxHeartbeats 400000 in
theorem markNet_any (p : Int) (B hi n c k0 : Nat) (T : TypeId) (M : Nat → List Int) (w : World) (h : PartF w B hi (3 * n) T M) (hs : cntF M (3 * n) ≤ 1048576) (hn : n ≤ 1048576) (hk0 : k0 ≤ 2097152) :
    Calls Try.prog 12 #[.agg #[.int .i64 p, .slice (some ⟨B, 0, none⟩) n c], .int .i64 (k0 : Int)] w fun e w' => e = .returned (.int .i64 ((k0 + cntF M (3 * n) : Nat) : Int)) ∧ PartF w' B hi (3 * n) T (markedF k0 M (3 * n)) ∧ Keeps (B + 1) hi w w' := by
  have hA := below_al w (.cells #[.int .i64 p, .slice (some ⟨B, 0, none⟩) n c] 31)
  have hlt : B < w.heap.size := by obtain ⟨C, f, h1, _⟩ := h; exact (Array.getElem?_eq_some_iff.mp h1).1
  have HT := hide (markTris_any B hi n c k0 T M _ (h.grow hA) hs hn hk0)
  have HK := hide (Keeps.of_below (lo := B + 1) (hi := hi) hA (by omega))
  obtain ⟨t0, ht0⟩ : ∃ t, Hid (k0 + cntF M (3 * n) = t) := ⟨_, rfl⟩
  rw [ht0.out] at HT ⊢
  clear h hA
  go_enter Try.func12, Try.ntmps12
  go_wp2_with fail
  refine HT.out.mono ?_
  rintro e w3 ⟨rfl, p3, kp3⟩
  have HP3 := hide p3
  have HK3 := hide (HK.out.trans kp3)
  clear p3 kp3 HT HK
  go_wp2_with fail
  go_ret
  exact ⟨rfl, HP3.out, HK3.out⟩
end Go.Proofs.Ytakenobplljkbab


/- How a net that comes in is opened: a number and a slice whose lists can be read. -/
namespace Go.Proofs.Ytakenobplljkbab
open Go.ChangeShapes Go.WideShapes Go.ChangeAt Go.RowKit Go.Deep Go.Joins

theorem row_of_ints {H : Type} {enc : TypeId × Value → H} {W : World} {base fuel : Nat} {v : Value} {x : DataW H × List MemPlace} (h : DataW.trod enc Try.prog W base (fun _ => true) true fuel 40 [v] = some x) :
    ∃ a n c xs, v = .slice a n c ∧ n ≤ maxLen ∧ Row W a n xs := by
  rcases open_ints Try.underlying40 Try.underlying3 (by kernel_rfl) h with ⟨hcs, _⟩ | ⟨y, l, c, zs, hcs, _, hl, hm, hz, _, hcell, _⟩
  · simp at hcs
    exact ⟨none, 0, 0, [], hcs, Nat.zero_le _, rfl, .inl rfl⟩
  · simp at hcs
    refine ⟨some y, l, c, zs.take l, hcs, by omega, ?_, ?_⟩
    · rw [List.length_take]; simp at hz; omega
    · by_cases h0 : l = 0
      · exact .inl h0
      · simp at hz
        obtain ⟨b, off, spot⟩ := y
        have hc := hcell 0 (by omega)
        have hspot : spot = none := by simpa [Addr.add] using World.cell?_spot hc
        subst hspot
        refine .inr ⟨b, off, rfl, ?_, fun i hi => ?_⟩
        · have := block_lt_of_cell hc; simpa [Addr.add] using this
        · have := hcell i (by omega)
          rw [List.getD_eq_getElem?_getD, List.getElem?_take_of_lt hi, ← List.getD_eq_getElem?_getD]
          rw [Addr.add_mid] at this
          exact this

set_option maxRecDepth 10000 in
theorem open_net {H : Type} {enc : TypeId × Value → H} {W : World} {base b0 : Nat} {r : Reach} {v : Value} {d : DataW H} {ps : List MemPlace} (hv : Value.okWide Try.prog W r b0 24 v) (h : DataW.Trod enc Try.prog W base (fun _ => true) true 24 v d ps) :
    ∃ p a n c L, v = .agg #[.int .i64 p, .slice a n c] ∧ n ≤ maxLen ∧ Lists W a (3 * n) L := by
  obtain ⟨v0, v1, y0, y1, m, rfl, _, _, h0, h1⟩ := open_agg2 Try.underlying24 (by kernel_rfl) (by kernel_rfl) hv h
  obtain ⟨p, hp, _, _⟩ := DataW.trod_int Try.underlying3 h0
  simp at hp
  subst hp
  have hC : Try.prog.cellsOf 83 = 3 := by kernel_rfl
  rcases open_slice Try.underlying22 h1 with ⟨hcs, _⟩ | ⟨a, len, cap, q, n', D, Pl, hcs, hb, hl, hm, hq, _, hel⟩
  · simp at hcs
    subst hcs
    exact ⟨p, none, 0, 0, [], rfl, Nat.zero_le _, rfl, .inl rfl⟩
  · simp at hcs
    subst hcs
    simp at hq
    subst hq
    rw [hC] at hel
    have key : ∀ i, i < len → ∃ (t : (Option Addr × Nat × Nat × List Int) × (Option Addr × Nat × Nat × List Int) × (Option Addr × Nat × Nat × List Int)),
        (W.cell? (a.add (i * 3)) = some (.slice t.1.1 t.1.2.1 t.1.2.2.1) ∧ t.1.2.1 ≤ maxLen ∧ Row W t.1.1 t.1.2.1 t.1.2.2.2) ∧
        (W.cell? ((a.add (i * 3)).add 1) = some (.slice t.2.1.1 t.2.1.2.1 t.2.1.2.2.1) ∧ t.2.1.2.1 ≤ maxLen ∧ Row W t.2.1.1 t.2.1.2.1 t.2.1.2.2.2) ∧
        (W.cell? ((a.add (i * 3)).add 2) = some (.slice t.2.2.1 t.2.2.2.1 t.2.2.2.2.1) ∧ t.2.2.2.1 ≤ maxLen ∧ Row W t.2.2.1 t.2.2.2.1 t.2.2.2.2.2) := by
      intro i hi
      obtain ⟨cs', hc1, hc2⟩ := hel i (by omega)
      obtain ⟨_, hlen, hcell⟩ := World.cells?_some hc1
      obtain ⟨y0, y1, y2, m', _, _, g0, g1, g2⟩ := trod_struct3 Try.underlying83 hc2
      match cs', hlen with
      | [u0, u1, u2], _ =>
        have k0 : Try.prog.cellsOf 40 = 1 := by kernel_rfl
        simp [k0] at g0 g1 g2
        obtain ⟨a0, n0, c0, x0, rfl, l0, r0⟩ := row_of_ints g0
        obtain ⟨a1, n1, c1, x1, rfl, l1, r1⟩ := row_of_ints g1
        obtain ⟨a2, n2, c2, x2, rfl, l2, r2⟩ := row_of_ints g2
        have w0 := hcell 0 (by omega)
        have w1 := hcell 1 (by omega)
        have w2 := hcell 2 (by omega)
        simp at w0 w1 w2
        refine ⟨((a0, n0, c0, x0), (a1, n1, c1, x1), (a2, n2, c2, x2)), ⟨by simpa [Addr.add] using w0, l0, r0⟩, ⟨w1, l1, r1⟩, ⟨w2, l2, r2⟩⟩
    obtain ⟨f, hf⟩ := choose_lt key
    refine ⟨p, some a, len, _, (List.range (3 * len)).map fun j => if j % 3 = 0 then (f (j / 3)).1.2.2.2 else if j % 3 = 1 then (f (j / 3)).2.1.2.2.2 else (f (j / 3)).2.2.2.2.2, rfl, by omega, by simp, ?_⟩
    by_cases h0 : len = 0
    · exact .inl (by omega)
    · obtain ⟨b, off, spot⟩ := a
      have hc := (hf 0 (by omega)).1.1
      have hspot : spot = none := by simpa [Addr.add] using World.cell?_spot hc
      subst hspot
      refine .inr ⟨b, off, rfl, ?_, fun j hj => ?_⟩
      · have := block_lt_of_cell hc; simpa [Addr.add] using this
      · have hj3 : j / 3 < len := by omega
        obtain ⟨q0, q1, q2⟩ := hf (j / 3) hj3
        simp only [Addr.add_mid] at q0 q1 q2
        simp only [List.getD_eq_getElem?_getD, List.getElem?_map, List.getElem?_range hj, Option.map_some, Option.getD_some]
        by_cases e0 : j % 3 = 0
        · rw [if_pos e0]
          have : off + j = off + j / 3 * 3 := by omega
          rw [this]; exact ⟨_, _, _, q0⟩
        · rw [if_neg e0]
          by_cases e1 : j % 3 = 1
          · rw [if_pos e1]
            have : off + j = off + j / 3 * 3 + 1 := by omega
            rw [this]; exact ⟨_, _, _, q1⟩
          · rw [if_neg e1]
            have : off + j = off + j / 3 * 3 + 2 := by omega
            rw [this]; exact ⟨_, _, _, q2⟩

theorem keep {v v' : World} {b : Nat} {C : Array Value} {t : TypeId} (h : v.heap[b]? = some (.cells C t (0, 0))) (hb : Below v.heap.size v v') : v'.heap[b]? = some (.cells C t (0, 0)) :=
  (hb.block b (Array.getElem?_eq_some_iff.mp h).1).trans h

theorem cells2 {v : World} {b : Nat} {x y : Value} {t : TypeId} (h : v.heap[b]? = some (.cells #[x, y] t (0, 0))) : v.cell? ⟨b, 0, none⟩ = some x ∧ v.cell? ⟨b, 1, none⟩ = some y :=
  ⟨cell_of_row v b 0 _ _ _ h, cell_of_row v b 1 _ _ _ h⟩

theorem row_lt {v : World} {b : Nat} {C : Array Value} {t : TypeId} (h : v.heap[b]? = some (.cells C t (0, 0))) : b < v.heap.size := (Array.getElem?_eq_some_iff.mp h).1
end Go.Proofs.Ytakenobplljkbab


/- l1Own: a list's own copy; l2Can, l2Fire and the specification's Fire, for every net and mark in memory. -/
namespace Go.Proofs.Ytakenobplljkbab
open Go.RowKit

/-- A slice of n numbers from the head of the block g, in which there may be more room. -/
def OutR (w : World) (g n : Nat) (ys : List Int) : Prop :=
  ys.length = n ∧ ∃ cur, w.heap[g]? = some (.cells cur 3 (0, 0)) ∧ n ≤ cur.size ∧ ∀ i, i < n → cur[i]? = some (.int .i64 (ys.getD i 0))

theorem OutR.row {w : World} {g n : Nat} {ys : List Int} (h : OutR w g n ys) : Row w (some ⟨g, 0, none⟩) n ys := by
  obtain ⟨hl, cur, h1, h2, h3⟩ := h
  refine ⟨hl, .inr ⟨g, 0, rfl, (Array.getElem?_eq_some_iff.mp h1).1, fun i hi => ?_⟩⟩
  rw [cell_of_row w g (0 + i) _ _ _ h1, Nat.zero_add]
  exact h3 i hi

theorem OutR.grow {w w' : World} {g n : Nat} {ys : List Int} (h : OutR w g n ys) (hb : Below w.heap.size w w') : OutR w' g n ys := by
  obtain ⟨hl, cur, h1, h2, h3⟩ := h
  exact ⟨hl, cur, (hb.block g (Array.getElem?_eq_some_iff.mp h1).1).trans h1, h2, h3⟩

theorem OutR.set {w : World} {g n : Nat} {ys : List Int} (h : OutR w g n ys) (k : Nat) (hk : k < n) (x : Int) : OutR (w.setCell ⟨g, k, none⟩ (.int .i64 x)) g n (ys.set k x) := by
  obtain ⟨hl, cur, h1, h2, h3⟩ := h
  refine ⟨by simpa using hl, _, heap_setCell_same w g k cur _ _ h1, by simpa using h2, fun i hi => ?_⟩
  rw [Array.getElem?_setIfInBounds]
  by_cases e : k = i
  · subst e
    rw [if_pos rfl, if_pos (by omega)]
    simp [List.getD_eq_getElem?_getD, show k < ys.length by omega]
  · rw [if_neg e, h3 i hi]
    simp [List.getD_eq_getElem?_getD, e]

theorem outR_of_own {B : Nat} {w : World} {v : Value} {n : Nat} {l : List Int} (hown : w.ownsRow B 3 1 v n (l.map (Value.int .i64))) (hv : v ≠ .slice none 0 0) : ∃ g c, v = .slice (some ⟨g, 0, none⟩) n c ∧ B ≤ g ∧ n ≤ c ∧ OutR w g n l := by
  have hl : l.length = n := by have := hown.1; simpa using this
  rcases hown.2 with ⟨rfl, rfl⟩ | ⟨g, cap, cur, rfl, hb, hh, hnc, _, hsz, ht⟩
  · exact absurd rfl hv
  · refine ⟨g, cap, rfl, hb, hnc, hl, cur, hh, by omega, fun i hi => ?_⟩
    have e : (cur.toList.take (n * 1))[i]? = (l.map (Value.int .i64))[i]? := by rw [ht]
    rw [List.getElem?_take_of_lt (by omega), Array.getElem?_toList] at e
    rw [e]
    simp [List.getElem?_eq_getElem (show i < l.length by omega)]

theorem info_split {P : Program} {e : TypeId} {z : Value} {size bytes : Nat} (h : (P.info? e).map (fun i => (i.zero, i.size, i.bytes)) = some (some z, size, bytes)) : ∃ i, P.info? e = some i ∧ i.zero = some z ∧ i.size = size ∧ i.bytes = bytes := by
  obtain ⟨i, hi, hzz⟩ := Option.map_eq_some_iff.1 h
  simp only [Prod.mk.injEq] at hzz
  exact ⟨i, hi, hzz.1, hzz.2.1, hzz.2.2⟩

theorem Row.cells {w : World} {b off n : Nat} {xs : List Int} (h : Row w (some ⟨b, off, none⟩) n xs) : ∀ j u, (xs.map (Value.int .i64))[j]? = some u → w.cell? ((⟨b, off, none⟩ : Addr).add j) = some u := by
  intro j u hu
  rw [Addr.add_mid]
  simp only [List.getElem?_map, Option.map_eq_some_iff] at hu
  obtain ⟨x, hx, rfl⟩ := hu
  have hj := (List.getElem?_eq_some_iff.mp hx).1
  have hl := h.1
  obtain ⟨b1, o1, y, he, _, hc, H⟩ := h.at (show j < n by omega)
  simp only [Option.some.injEq, Addr.mk.injEq] at he
  obtain ⟨rfl, rfl, _⟩ := he
  rw [hc]
  have := H.out
  rw [hx] at this
  simp at this
  rw [this]

set_option maxHeartbeats 400000 in
theorem own_any (b off n ca : Nat) (xs : List Int) (w : World) (ha : Row w (some ⟨b, off, none⟩) n xs) (hn : n ≤ 1048576) :
    Calls Try.prog 80 #[.slice (some ⟨b, off, none⟩) n ca] w fun e w' => ∃ g c, e = .returned (.slice (some ⟨g, 0, none⟩) n c) ∧ w.heap.size ≤ g ∧ n ≤ c ∧ OutR w' g n xs ∧ Below w.heap.size w w' := by
  obtain ⟨i0, hi, hz0, hz1, hz2⟩ := info_split Try.info3
  have HA := hide ha
  have HL := hide ha.1
  clear ha
  have HW := hide (HA.out.alloc (.cells #[] 3))
  have HO : Hid ((w.alloc (.cells #[] 3)).ownsRow w.heap.size 3 1 (.slice (some ⟨w.heap.size, 0, none⟩) 0 0) 0 []) :=
    ⟨rfl, .inr ⟨w.heap.size, 0, #[], rfl, Nat.le_refl _, heap_alloc_new _ _, Nat.le_refl _, Nat.zero_le _, rfl, rfl⟩⟩
  have HN := hide (show (xs.map (Value.int .i64)).length = n * 1 by rw [List.length_map, Nat.mul_one]; exact HL.out)
  have H1 := hide (show ∀ u ∈ xs.map (Value.int .i64), u.oneCell' = true by intro u hu; simp at hu; obtain ⟨x, _, rfl⟩ := hu; rfl)
  have HX := hide (show 0 + n ≤ maxLen by unfold maxLen; omega)
  have HY := hide (show (0 + n) * 8 ≤ 140737488355328 by omega)
  have HZ := hide (show w.heap.size ≤ (w.alloc (.cells #[] 3)).heap.size by simp)
  go_enter Try.func80, Try.ntmps80
  go_wp2_with (refine wpList_append_own _ rfl (.tmp 3) (.tmp 4) 40 rfl w.heap.size 3 i0 (.int .i64 0) 1 8 Try.underlying40 hi hz0 hz1 hz2 rfl (by decide) (.slice (some ⟨w.heap.size, 0, none⟩) 0 0) 0 [] rfl HO.out ⟨b, off, none⟩ n ca (xs.map (Value.int .i64)) rfl HN.out HW.out.cells H1.out HX.out HY.out HZ.out ?_; intro v' W' r1 r2 r3)
  go_ret
  rw [Nat.zero_add, List.nil_append] at r1
  obtain ⟨g, c, rfl, hg, hc, hout⟩ := outR_of_own r1 (fun e => by have := (r3.mp e).1; simp at this)
  exact ⟨g, c, rfl, hg, hc, hout, (below_al w _).grown r2 (by simp) (fun k hk => by simp [Value.ownBlock] at hk; omega)⟩

def canB (x0 ys : List Int) : Bool := x0.all fun p => !decide (ys.getD p.toNat 0 = 0)

theorem canB_take {xs ys : List Int} {k : Nat} {x : Int} (h : canB (xs.take k) ys = true) (hx : xs[k]? = some x) (hne : ¬ ys.getD x.toNat 0 = 0) : canB (xs.take (k + 1)) ys = true := by
  unfold canB at *
  rw [List.take_add_one, hx, List.all_append, h]
  simpa [List.getD_eq_getElem?_getD] using hne

theorem canB_no {xs ys : List Int} {k : Nat} {x : Int} (hx : xs[k]? = some x) (he : ys.getD x.toNat 0 = 0) : canB xs ys = false := by
  unfold canB
  rw [List.all_eq_false]
  exact ⟨x, List.mem_of_getElem? hx, by simpa [List.getD_eq_getElem?_getD] using he⟩

set_option maxHeartbeats 400000 in
theorem can_any (a0 a1 a2 am : Option Addr) (n0 n1 n2 c0 c1 c2 nm cm : Nat) (x0 ys : List Int) (w : World) (r0 : Row w a0 n0 x0) (rm : Row w am nm ys) (h0 : n0 ≤ 1048576) (hin : ∀ x ∈ x0, 0 ≤ x ∧ x < nm) :
    Calls Try.prog 87 #[.agg #[.slice a0 n0 c0, .slice a1 n1 c1, .slice a2 n2 c2], .slice am nm cm] w fun e w' => e = .returned (.bool (canB x0 ys)) ∧ Below w.heap.size w w' := by
  have hAl := below_al w (.cells #[.slice a0 n0 c0, .slice a1 n1 c1, .slice a2 n2 c2] 87)
  have R0 := hide (r0.below hAl)
  have RM := hide (rm.below hAl)
  have HIN := hide hin
  have HB := hide hAl
  clear r0 rm hAl hin
  go_enter Try.func87, Try.ntmps87
  go_wp2_with fail
  generalize w.alloc (.cells #[.slice a0 n0 c0, .slice a1 n1 c1, .slice a2 n2 c2] 87) = v at *
  go_loop [10] (fun i => ∃ k : Nat, k ≤ n0 ∧ i = .int .i64 k ∧ Hid (canB (x0.take k) ys = true)) (fun i => n0 - (intOf i).toNat)
  case atStart => exact ⟨0, Nat.zero_le _, rfl, rfl⟩
  case round =>
    obtain ⟨k, hk, rfl, hu⟩ := hrel
    by_cases hlt : k < n0
    rotate_left
    · have hk' : k = n0 := by omega
      subst hk'
      have HA : Hid (canB x0 ys = true) := by have := hu.out; rwa [List.take_of_length_le (by have := R0.out.1; omega)] at this
      go_wp2_with fail
      go_ret
      exact ⟨ret_bool HA.out.symm, HB.out⟩
    obtain ⟨b1, o1, x, rfl, hl1, hc1, H1⟩ := R0.out.at hlt
    obtain ⟨hx0, hx1⟩ := HIN.out x (List.mem_of_getElem? H1.out)
    obtain ⟨j, rfl⟩ : ∃ j : Nat, x = (j : Int) := ⟨x.toNat, by omega⟩
    obtain ⟨b2, o2, y, rfl, hl2, hc2, H2⟩ := RM.out.at (show j < nm by omega)
    have hy : ys.getD (j : Int).toNat 0 = y := by rw [Int.toNat_natCast, List.getD_eq_getElem?_getD, H2.out]; rfl
    by_cases he : y = 0
    · have HN := hide (canB_no H1.out (hy.trans he))
      subst he
      clear hy hu H1 H2
      go_wp2_with fail
      go_ret
      exact ⟨ret_bool HN.out.symm, HB.out⟩
    · have HU := hide (canB_take hu.out H1.out (by rw [hy]; exact he))
      clear hy hu H1 H2
      go_wp2_with fail
      go_round
      case rel => exact ⟨k + 1, by omega, by go_num, HU⟩
      case measure => simp [intOf]; omega
end Go.Proofs.Ytakenobplljkbab


/- l2Fire and the specification's Fire, for every net and mark in memory. -/
namespace Go.Proofs.Ytakenobplljkbab
open Go.RowKit

/-- The numbers at the places xs are changed by g, one behind the other. -/
def updL (g : Int → Int) (xs ys : List Int) : List Int := xs.foldl (fun l p => l.set p.toNat (g (l.getD p.toNat 0))) ys

theorem updL_snoc (g : Int → Int) (xs ys : List Int) (x : Int) : updL g (xs ++ [x]) ys = (updL g xs ys).set x.toNat (g ((updL g xs ys).getD x.toNat 0)) := by simp [updL, List.foldl_append]

theorem updL_take (g : Int → Int) (xs ys : List Int) (k : Nat) (x : Int) (h : xs[k]? = some x) : updL g (xs.take (k + 1)) ys = (updL g (xs.take k) ys).set x.toNat (g ((updL g (xs.take k) ys).getD x.toNat 0)) := by
  rw [List.take_add_one, h]; exact updL_snoc _ _ _ _

theorem updL_len (g : Int → Int) (xs ys : List Int) : (updL g xs ys).length = ys.length := by
  induction xs using snoc_ind with
  | h0 => rfl
  | h1 xs x ih => rw [updL_snoc, List.length_set, ih]

theorem riseB_snoc {xs : List Int} {x lo hi : Int} (h : riseB (xs ++ [x]) lo hi = true) : riseB xs lo hi = true ∧ x ∉ xs := by
  induction xs generalizing lo with
  | nil => exact ⟨rfl, by simp⟩
  | cons y r ih =>
    simp only [List.cons_append, riseB, Bool.and_eq_true, decide_eq_true_eq] at h ⊢
    obtain ⟨h1, h2⟩ := h
    have := ih h2
    refine ⟨⟨h1, this.1⟩, ?_⟩
    intro hm
    rcases List.mem_cons.mp hm with e | hm
    · have := riseB_mem h2 x (by simp); omega
    · exact this.2 hm

theorem updL_at (g : Int → Int) {xs : List Int} (ys : List Int) (hi : Int) (h : riseB xs 0 hi = true) (hl : hi < ys.length) (i : Nat) : (updL g xs ys).getD i 0 = if (i : Int) ∈ xs then g (ys.getD i 0) else ys.getD i 0 := by
  induction xs using snoc_ind with
  | h0 => simp [updL]
  | h1 xs x ih =>
    have hs := riseB_snoc h
    have hx := riseB_mem h x (by simp)
    have ih' := ih hs.1
    rw [updL_snoc, List.getD_eq_getElem?_getD, List.getElem?_set, updL_len]
    by_cases e : x.toNat = i
    · subst e
      rw [if_pos rfl, if_pos (by omega), ih', Int.toNat_of_nonneg hx.1, if_neg hs.2, if_pos (by simp)]
      rfl
    · rw [if_neg e, ← List.getD_eq_getElem?_getD, ih']
      have hne : (i : Int) ≠ x := by omega
      by_cases hm : (i : Int) ∈ xs
      · rw [if_pos hm, if_pos (by simp [hm])]
      · rw [if_neg hm, if_neg (by simp [hm, hne])]

theorem bound3 (g : Int → Int) {xs : List Int} (ys : List Int) (hi : Int) (h : riseB xs 0 hi = true) (hl : hi < ys.length) (i : Nat) (hb : -60 ≤ ys.getD i 0 ∧ ys.getD i 0 ≤ 60) (hg : -60 ≤ g (ys.getD i 0) ∧ g (ys.getD i 0) ≤ 60) : -60 ≤ (updL g xs ys).getD i 0 ∧ (updL g xs ys).getD i 0 ≤ 60 := by
  rw [updL_at g ys hi h hl i]; split
  · exact hg
  · exact hb

def fireL (x0 x1 x2 ys : List Int) : List Int := updL (· + 1) x1 (updL (fun _ => 0) x2 (updL (· - 1) x0 ys))

set_option maxHeartbeats 1000000 in
theorem fireS_any (a0 a1 a2 : Option Addr) (n0 n1 n2 c0 c1 c2 nm bm om cm : Nat) (x0 x1 x2 ys : List Int) (w : World) (r0 : Row w a0 n0 x0) (r1 : Row w a1 n1 x1) (r2 : Row w a2 n2 x2) (rm : Row w (some ⟨bm, om, none⟩) nm ys)
    (h0 : n0 ≤ 1048576) (h1 : n1 ≤ 1048576) (h2 : n2 ≤ 1048576) (hm : nm ≤ 16) (hr0 : riseB x0 0 ((nm : Int) - 1) = true) (hr1 : riseB x1 0 ((nm : Int) - 1) = true) (hr2 : riseB x2 0 ((nm : Int) - 1) = true) (hys : ∀ i, 0 ≤ ys.getD i 0 ∧ ys.getD i 0 ≤ 50) :
    Calls Try.prog 82 #[.agg #[.slice a0 n0 c0, .slice a1 n1 c1, .slice a2 n2 c2], .slice (some ⟨bm, om, none⟩) nm cm] w fun e w' => ∃ g c, e = .returned (.slice (some ⟨g, 0, none⟩) nm c) ∧ w.heap.size ≤ g ∧ OutR w' g nm (fireL x0 x1 x2 ys) ∧ Below w.heap.size w w' := by
  have hAl := below_al w (.cells #[.slice a0 n0 c0, .slice a1 n1 c1, .slice a2 n2 c2] 87)
  have R0 := hide (r0.below hAl)
  have R1 := hide (r1.below hAl)
  have R2 := hide (r2.below hAl)
  have RM := hide (rm.below hAl)
  have HB := hide hAl
  have HV := hide (heap_alloc_new w (.cells #[.slice a0 n0 c0, .slice a1 n1 c1, .slice a2 n2 c2] 87))
  clear r0 r1 r2 rm hAl
  go_enter Try.func82, Try.ntmps82
  go_wp2_with fail
  have HR := hide (And.intro hr0 (And.intro hr1 hr2))
  generalize w.alloc (.cells #[.slice a0 n0 c0, .slice a1 n1 c1, .slice a2 n2 c2] 87) = v at *
  refine (own_any _ _ _ _ ys _ RM.out (by omega)).mono ?_
  rintro e w1 ⟨g, c, rfl, hg, hc, hout, hb⟩
  have hly := hide hout.1
  have HBV := hide hb
  have HO := hide hout
  clear RM hout hb
  have hv0 := cell_of_row w1 w.heap.size 0 _ _ _ (keep HV.out HBV.out)
  simp at hv0
  go_wp2_with fail
  clear hv0
  go_loopw [17] (fun i wr => ∃ k : Nat, k ≤ n0 ∧ i = .int .i64 k ∧ Hid (OutR wr g nm (updL (· - 1) (x0.take k) ys)) ∧ Hid (Below v.heap.size v wr)) (fun i _ => n0 - (intOf i).toNat)
  case atStart => exact ⟨0, Nat.zero_le _, rfl, HO, HBV⟩
  case round =>
    obtain ⟨k, hk, rfl, ho, hbw⟩ := hrel
    by_cases hlt : k < n0
    · obtain ⟨b1, o1, x, rfl, hl1, hc1, H1⟩ := (R0.out.below hbw.out).at hlt
      have hxm := riseB_mem HR.out.1 x (List.mem_of_getElem? H1.out)
      obtain ⟨j, rfl⟩ : ∃ j : Nat, x = (j : Int) := ⟨x.toNat, by omega⟩
      have hjn : (j : Int) < (nm : Int) := by omega
      have HU := hide (updL_take (· - 1) x0 ys k _ H1.out)
      rw [Int.toNat_natCast] at HU
      obtain ⟨hle, cur, hh, hcs, hcell⟩ := ho.out
      have hy := hcell j (by omega)
      have hfr := frozen_of_row wr g j cur _ hh
      have hcy := cell_of_row wr g j cur _ _ hh
      rw [hy] at hcy
      have hyb : -60 ≤ (updL (· - 1) (x0.take k) ys).getD j 0 ∧ (updL (· - 1) (x0.take k) ys).getD j 0 ≤ 60 := bound3 (fun y => y - 1) ys ((nm : Int) - 1) (riseB_take (k := k) HR.out.1) (by have := hly.out; omega) j (by have := hys j; omega) (by have := hys j; omega)
      obtain ⟨y, hyy⟩ : ∃ y, Hid ((updL (· - 1) (x0.take k) ys).getD j 0 = y) := ⟨_, rfl⟩
      rw [hyy.out] at hcy hyb HU
      have HN : Hid (OutR (wr.setCell ⟨g, j, none⟩ (.int .i64 (y - 1))) g nm (updL (· - 1) (x0.take (k + 1)) ys)) := by
        show OutR _ _ _ _
        rw [HU.out]; exact ho.out.set j (by omega) _
      have HBN := hide (hbw.out.setCell (p := ⟨g, j, none⟩) hg (.int .i64 (y - 1)))
      clear ho hbw hh hcell hy hxm HU H1 hcs hle hyy
      go_wp2_with fail
      go_roundw
      case rel => exact ⟨k + 1, by omega, by go_num, HN, HBN⟩
      case measure => simp [intOf]; omega
    · have hk' : k = n0 := by omega
      subst hk'
      have HO2 : Hid (OutR wr g nm (updL (· - 1) x0 ys)) := by have := ho.out; rwa [List.take_of_length_le (by have := R0.out.1; omega)] at this
      have HBV2 := hbw
      clear ho hbw HO HBV
      have HO := HO2
      have HBV := HBV2
      clear HO2 HBV2
      have hv1 := cell_of_row wr w.heap.size 1 _ _ _ (keep HV.out HBV.out)
      have hv2 := cell_of_row wr w.heap.size 2 _ _ _ (keep HV.out HBV.out)
      simp at hv1 hv2
      go_wp2_with fail
      go_loopw [31] (fun i wr => ∃ k : Nat, k ≤ n2 ∧ i = .int .i64 k ∧ Hid (OutR wr g nm (updL (fun _ => 0) (x2.take k) (updL (· - 1) x0 ys))) ∧ Hid (Below v.heap.size v wr)) (fun i _ => n2 - (intOf i).toNat)
      case atStart => exact ⟨0, Nat.zero_le _, rfl, HO, HBV⟩
      case round =>
        obtain ⟨k, hk, rfl, ho, hbw⟩ := hrel
        by_cases hlt : k < n2
        · obtain ⟨b1, o1, x, rfl, hl1, hc1, H1⟩ := (R2.out.below hbw.out).at hlt
          have hxm := riseB_mem HR.out.2.2 x (List.mem_of_getElem? H1.out)
          obtain ⟨j, rfl⟩ : ∃ j : Nat, x = (j : Int) := ⟨x.toNat, by omega⟩
          have hjn : (j : Int) < (nm : Int) := by omega
          have HU := hide (updL_take (fun _ => 0) x2 (updL (· - 1) x0 ys) k _ H1.out)
          rw [Int.toNat_natCast] at HU
          obtain ⟨hle, cur, hh, hcs, hcell⟩ := ho.out
          have hy := hcell j (by omega)
          have hfr := frozen_of_row wr g j cur _ hh
          have hcy := cell_of_row wr g j cur _ _ hh
          rw [hy] at hcy
          have hyb : -60 ≤ (updL (fun _ => 0) (x2.take k) (updL (· - 1) x0 ys)).getD j 0 ∧ (updL (fun _ => 0) (x2.take k) (updL (· - 1) x0 ys)).getD j 0 ≤ 60 := by
            have hb1 := bound3 (fun y => y - 1) (xs := x0) ys ((nm : Int) - 1) HR.out.1 (by have := hly.out; omega) j (by have := hys j; omega) (by have := hys j; omega)
            exact bound3 (fun _ => 0) _ ((nm : Int) - 1) (riseB_take (k := k) HR.out.2.2) (by rw [updL_len]; have := hly.out; omega) j hb1 (by omega)
          obtain ⟨y, hyy⟩ : ∃ y, Hid ((updL (fun _ => 0) (x2.take k) (updL (· - 1) x0 ys)).getD j 0 = y) := ⟨_, rfl⟩
          rw [hyy.out] at hcy hyb
          have HN : Hid (OutR (wr.setCell ⟨g, j, none⟩ (.int .i64 (0))) g nm (updL (fun _ => 0) (x2.take (k + 1)) (updL (· - 1) x0 ys))) := by
            show OutR _ _ _ _
            rw [HU.out]; exact ho.out.set j (by omega) _
          have HBN := hide (hbw.out.setCell (p := ⟨g, j, none⟩) hg (.int .i64 (0)))
          clear ho hbw hh hcell hy hxm HU H1 hcs hle hyy
          go_wp2_with fail
          go_roundw
          case rel => exact ⟨k + 1, by omega, by go_num, HN, HBN⟩
          case measure => simp [intOf]; omega
        · have hk' : k = n2 := by omega
          subst hk'
          have HO2 : Hid (OutR wr g nm (updL (fun _ => 0) x2 (updL (· - 1) x0 ys))) := by have := ho.out; rwa [List.take_of_length_le (by have := R2.out.1; omega)] at this
          have HBV2 := hbw
          clear ho hbw HO HBV
          have HO := HO2
          have HBV := HBV2
          clear HO2 HBV2
          have hv1 := cell_of_row wr w.heap.size 1 _ _ _ (keep HV.out HBV.out)
          have hv2 := cell_of_row wr w.heap.size 2 _ _ _ (keep HV.out HBV.out)
          simp at hv1 hv2
          go_wp2_with fail
          go_loopw [42] (fun i wr => ∃ k : Nat, k ≤ n1 ∧ i = .int .i64 k ∧ Hid (OutR wr g nm (updL (· + 1) (x1.take k) (updL (fun _ => 0) x2 (updL (· - 1) x0 ys)))) ∧ Hid (Below v.heap.size v wr)) (fun i _ => n1 - (intOf i).toNat)
          case atStart => exact ⟨0, Nat.zero_le _, rfl, HO, HBV⟩
          case round =>
            obtain ⟨k, hk, rfl, ho, hbw⟩ := hrel
            by_cases hlt : k < n1
            · obtain ⟨b1, o1, x, rfl, hl1, hc1, H1⟩ := (R1.out.below hbw.out).at hlt
              have hxm := riseB_mem HR.out.2.1 x (List.mem_of_getElem? H1.out)
              obtain ⟨j, rfl⟩ : ∃ j : Nat, x = (j : Int) := ⟨x.toNat, by omega⟩
              have hjn : (j : Int) < (nm : Int) := by omega
              have HU := hide (updL_take (· + 1) x1 (updL (fun _ => 0) x2 (updL (· - 1) x0 ys)) k _ H1.out)
              rw [Int.toNat_natCast] at HU
              obtain ⟨hle, cur, hh, hcs, hcell⟩ := ho.out
              have hy := hcell j (by omega)
              have hfr := frozen_of_row wr g j cur _ hh
              have hcy := cell_of_row wr g j cur _ _ hh
              rw [hy] at hcy
              have hyb : -60 ≤ (updL (· + 1) (x1.take k) (updL (fun _ => 0) x2 (updL (· - 1) x0 ys))).getD j 0 ∧ (updL (· + 1) (x1.take k) (updL (fun _ => 0) x2 (updL (· - 1) x0 ys))).getD j 0 ≤ 60 := by
                have hb1 := updL_at (fun y => y - 1) (xs := x0) ys ((nm : Int) - 1) HR.out.1 (by have := hly.out; omega) j
                have hb2 := updL_at (fun _ => 0) (xs := x2) (updL (· - 1) x0 ys) ((nm : Int) - 1) HR.out.2.2 (by rw [updL_len]; have := hly.out; omega) j
                have hb3 := updL_at (fun y => y + 1) (xs := x1.take k) (updL (fun _ => 0) x2 (updL (· - 1) x0 ys)) ((nm : Int) - 1) (riseB_take (k := k) HR.out.2.1) (by rw [updL_len, updL_len]; have := hly.out; omega) j
                have := hys j
                rw [hb3, hb2, hb1]
                (repeat' split) <;> omega
              obtain ⟨y, hyy⟩ : ∃ y, Hid ((updL (· + 1) (x1.take k) (updL (fun _ => 0) x2 (updL (· - 1) x0 ys))).getD j 0 = y) := ⟨_, rfl⟩
              rw [hyy.out] at hcy hyb HU
              have HN : Hid (OutR (wr.setCell ⟨g, j, none⟩ (.int .i64 (y + 1))) g nm (updL (· + 1) (x1.take (k + 1)) (updL (fun _ => 0) x2 (updL (· - 1) x0 ys)))) := by
                show OutR _ _ _ _
                rw [HU.out]; exact ho.out.set j (by omega) _
              have HBN := hide (hbw.out.setCell (p := ⟨g, j, none⟩) hg (.int .i64 (y + 1)))
              clear ho hbw hh hcell hy hxm HU H1 hcs hle hyy
              go_wp2_with fail
              go_roundw
              case rel => exact ⟨k + 1, by omega, by go_num, HN, HBN⟩
              case measure => simp [intOf]; omega
            · have hk' : k = n1 := by omega
              subst hk'
              have HO2 : Hid (OutR wr g nm (updL (· + 1) x1 (updL (fun _ => 0) x2 (updL (· - 1) x0 ys)))) := by have := ho.out; rwa [List.take_of_length_le (by have := R1.out.1; omega)] at this
              have HBV2 := hbw
              clear ho hbw HO HBV
              have HO := HO2
              have HBV := HBV2
              clear HO2 HBV2
              have hv1 := cell_of_row wr w.heap.size 1 _ _ _ (keep HV.out HBV.out)
              have hv2 := cell_of_row wr w.heap.size 2 _ _ _ (keep HV.out HBV.out)
              simp at hv1 hv2
              go_wp2_with fail
              go_ret
              exact ⟨g, c, rfl, by have := HB.out.size; omega, HO.out, HB.out.trans (HBV.out.mono HB.out.size)⟩
end Go.Proofs.Ytakenobplljkbab


/- What tokensOf and both GoodMarks answer, for every number of places and every list: true just where the places are in 1..16, the list is as long, and each of its numbers is in 0..50; nothing that was there is written. -/
namespace Go.Proofs.Ytakenobplljkbab
open Go.RowKit

theorem goodB_of {p : Int} {n : Nat} {xs : List Int} (hl : xs.length = n) (hp : inB p 1 16 = true) (hn : (n : Int) = p) : goodB p xs = allB xs 0 50 := by
  simp [goodB, hp, hl, hn]

theorem goodB_p {p : Int} {xs : List Int} (hp : inB p 1 16 = false) : goodB p xs = false := by simp [goodB, hp]

theorem goodB_n {p : Int} {n : Nat} {xs : List Int} (hl : xs.length = n) (hn : ¬ (n : Int) = p) : goodB p xs = false := by
  simp [goodB, hl, hn]

theorem inB_le {p : Int} {n : Nat} (hp : inB p 1 16 = true) (hn : (n : Int) = p) : 1 ≤ n ∧ n ≤ 16 := by
  simp [inB] at hp; omega

set_option maxHeartbeats 400000 in
theorem tokens_any (p : Int) (a : Option Addr) (n ca : Nat) (xs : List Int) (w : World) (ha : Row w a n xs) (_hn : n ≤ 1048576) :
    Calls Try.prog 51 #[.int .i64 p, .slice a n ca] w fun e w' => TokEnd (goodB p xs) xs n w e w' := by
  by_cases hp : inB p 1 16 = true
  · by_cases hnp : (n : Int) = p
    · exact tokens_run _ p a n ca xs w ha hp hnp (inB_le hp hnp).2 (goodB_of ha.1 hp hnp)
    · have hd : ((n : Int) != p) = true := by simp [hnp]
      have HG : Hid (goodB p xs = false) := goodB_n ha.1 hnp
      clear hnp ha
      go_enter Try.func51, Try.ntmps51
      go_wp2_with (go_at_call 69; refine (goodPlaces_any _ _).mono ?_; rintro e w' ⟨rfl, rfl⟩)
      exact bodyPost_ret (v := .tuple #[.agg #[.int .u8 0, .int .u8 0, .int .u8 0, .int .u8 0, .int .u8 0, .int .u8 0, .int .u8 0, .int .u8 0, .int .u8 0, .int .u8 0, .int .u8 0, .int .u8 0, .int .u8 0, .int .u8 0, .int .u8 0, .int .u8 0], .bool false]) (by simp [results, Try.results51, go_sem]) rfl (tokEnd_no HG.out (below_two _ _ _))
  · have hp' : inB p 1 16 = false := by simpa using hp
    have HG : Hid (goodB p xs = false) := goodB_p hp'
    clear hp ha
    go_enter Try.func51, Try.ntmps51
    go_wp2_with (go_at_call 69; refine (goodPlaces_any _ _).mono ?_; rintro e w' ⟨rfl, rfl⟩)
    exact bodyPost_ret (v := .tuple #[.agg #[.int .u8 0, .int .u8 0, .int .u8 0, .int .u8 0, .int .u8 0, .int .u8 0, .int .u8 0, .int .u8 0, .int .u8 0, .int .u8 0, .int .u8 0, .int .u8 0, .int .u8 0, .int .u8 0, .int .u8 0, .int .u8 0], .bool false]) (by simp [results, Try.results51, go_sem]) rfl (tokEnd_no HG.out (below_two _ _ _))

/-- A call that answers a bool and writes into nothing that was there. -/
def BoolEnd (b : Bool) (w : World) (e : Ending) (w' : World) : Prop := e = .returned (.bool b) ∧ Below w.heap.size w w'


def AllUpto (xs : List Int) (lo hi : Int) (k : Nat) : Prop := allB (xs.take k) lo hi = true

theorem AllUpto.step {xs : List Int} {lo hi : Int} {k : Nat} {x : Int} (h : AllUpto xs lo hi k) (hx : Hid (xs[k]? = some x)) (hi' : inB x lo hi = true) : AllUpto xs lo hi (k + 1) := by
  unfold AllUpto allB at *
  rw [List.take_add_one, hx.out, List.all_append, h]
  simp [hi']

theorem AllUpto.done {xs : List Int} {lo hi : Int} {n : Nat} (h : AllUpto xs lo hi n) (hl : xs.length = n) : allB xs lo hi = true := by
  unfold AllUpto at h
  rwa [List.take_of_length_le (by omega)] at h

theorem allB_no {xs : List Int} {lo hi : Int} {k : Nat} {x : Int} (hx : Hid (xs[k]? = some x)) (hi' : inB x lo hi = false) : allB xs lo hi = false := by
  unfold allB
  rw [List.all_eq_false]
  exact ⟨x, List.mem_of_getElem? hx.out, by simp [hi']⟩

set_option maxHeartbeats 400000 in
theorem allG_any (a : Option Addr) (n ca : Nat) (xs : List Int) (lo hi : Int) (w : World) (ha : Row w a n xs) (hn : n ≤ 1048576) :
    Calls Try.prog 88 #[.slice a n ca, .int .i64 lo, .int .i64 hi] w fun e w' => e = .returned (.bool (allB xs lo hi)) ∧ w' = w := by
  go_enter Try.func88, Try.ntmps88
  go_wp2
  go_loop [11] (fun i => ∃ k : Nat, k ≤ n ∧ i = .int .i64 k ∧ AllUpto xs lo hi k) (fun i => n - (intOf i).toNat)
  case atStart => exact ⟨0, Nat.zero_le _, rfl, rfl⟩
  case round =>
    obtain ⟨k, hk, rfl, hu⟩ := hrel
    by_cases hlt : k < n
    · obtain ⟨b1, o1, x, rfl, hl1, hc1, H1⟩ := ha.at hlt
      clear ha
      by_cases hi' : inB x lo hi = true
      · have HU := hu.step H1 hi'
        clear hu H1
        go_wp2_with (go_at_call 74; refine (in_any _ _ _ _).mono ?_; rintro e w' ⟨rfl, rfl⟩)
        go_round
        case rel => exact ⟨k + 1, by omega, by go_num, HU⟩
        case measure => simp [intOf]; omega
      · have hi'' : inB x lo hi = false := by simpa using hi'
        have HA := hide (allB_no H1 hi'')
        clear hu H1 hi'
        go_wp2_with (go_at_call 74; refine (in_any _ _ _ _).mono ?_; rintro e w' ⟨rfl, rfl⟩)
        go_ret
        exact ⟨ret_bool HA.out.symm, rfl⟩
    · have hk' : k = n := by omega
      subst hk'
      have HA := hide (hu.done ha.1)
      go_wp2
      go_ret
      exact ⟨ret_bool HA.out.symm, rfl⟩

set_option maxHeartbeats 400000 in
theorem goodS_any (p : Int) (a : Option Addr) (n ca : Nat) (xs : List Int) (w : World) (ha : Row w a n xs) (hn : n ≤ 1048576) :
    Calls Try.prog 83 #[.int .i64 p, .slice a n ca] w fun e w' => e = .returned (.bool (goodB p xs)) ∧ w' = w := by
  by_cases hp : inB p 1 16 = true
  · by_cases hnp : (n : Int) = p
    · have hd : ((n : Int) == p) = true := by simp [hnp]
      have HG := hide (goodB_of ha.1 hp hnp)
      have HA := hide (allG_any a n ca xs 0 50 w ha hn)
      clear hnp ha
      go_enter Try.func83, Try.ntmps83
      go_wp2_with (first
        | (go_at_call 56; refine (places_any _ _).mono ?_; rintro e w' ⟨rfl, rfl⟩)
        | (go_at_call 88; refine HA.out.mono ?_; rintro e w' ⟨rfl, rfl⟩))
      go_ret
      exact ⟨ret_bool HG.out.symm, rfl⟩
    · have hd : ((n : Int) == p) = false := by simp [hnp]
      have HG := hide (goodB_n ha.1 hnp)
      clear hnp ha
      go_enter Try.func83, Try.ntmps83
      go_wp2_with (go_at_call 56; refine (places_any _ _).mono ?_; rintro e w' ⟨rfl, rfl⟩)
      go_ret
      exact ⟨ret_bool HG.out.symm, rfl⟩
  · have hp' : inB p 1 16 = false := by simpa using hp
    have HG := hide (goodB_p (xs := xs) hp')
    clear hp ha
    go_enter Try.func83, Try.ntmps83
    go_wp2_with (go_at_call 56; refine (places_any _ _).mono ?_; rintro e w' ⟨rfl, rfl⟩)
    go_ret
    exact ⟨ret_bool HG.out.symm, rfl⟩
end Go.Proofs.Ytakenobplljkbab


/- l2Marked and the specification's Fire, for every net, mark and number in memory. -/
namespace Go.Proofs.Ytakenobplljkbab
open Go.RowKit

theorem goodB_parts {p : Int} {ys : List Int} (h : goodB p ys = true) : (1 ≤ p ∧ p ≤ 16) ∧ (ys.length : Int) = p ∧ ∀ i, 0 ≤ ys.getD i 0 ∧ ys.getD i 0 ≤ 50 := by
  unfold goodB at h
  simp only [Bool.and_eq_true, decide_eq_true_eq] at h
  obtain ⟨⟨h1, h2⟩, h3⟩ := h
  refine ⟨by simpa [inB] using h1, h2, fun i => ?_⟩
  by_cases hi : i < ys.length
  · unfold allB at h3
    rw [List.all_eq_true] at h3
    have := h3 (ys.getD i 0) (by rw [List.getD_eq_getElem?_getD, List.getElem?_eq_getElem hi]; simp)
    simpa [inB] using this
  · rw [List.getD_eq_getElem?_getD, List.getElem?_eq_none (by omega)]; simp

set_option maxHeartbeats 400000 in
theorem marked_any (p : Int) (a am : Option Addr) (n c nm cm : Nat) (L : List (List Int)) (ys : List Int) (w : World) (h : Lists w a (3 * n) L) (rm : Row w am nm ys) (hs : sizeN n L ≤ 1048576) (hnm : nm ≤ 1048576) :
    Calls Try.prog 79 #[.agg #[.int .i64 p, .slice a n c], .slice am nm cm] w fun e w' => e = .returned (.bool (netOk p n L && goodB p ys)) ∧ Below w.heap.size w w' := by
  have hAl := below_al w (.cells #[.int .i64 p, .slice a n c] 31)
  have PAR := hide (heap_alloc_new w (.cells #[.int .i64 p, .slice a n c] 31))
  have HG := hide (goodNetS_any p a n c L _ (h.below hAl) hs)
  have RM := hide (rm.below hAl)
  have HB0 := hide hAl
  clear h rm hAl
  by_cases hg : netOk p n L = true
  · rw [hg] at HG
    rw [hg, Bool.true_and]
    clear hg
    go_enter Try.func79, Try.ntmps79
    go_wp2_with fail
    refine HG.out.mono ?_
    rintro e w1 ⟨rfl, hb⟩
    obtain ⟨hc0, hc1⟩ := cells2 (keep PAR.out hb)
    have HM := hide (goodS_any p am nm cm ys w1 (RM.out.below hb) hnm)
    have HB1 := hide (HB0.out.trans (hb.mono HB0.out.size))
    clear hb HG PAR HB0 RM
    go_wp2_with fail
    refine HM.out.mono ?_
    rintro e w2 ⟨rfl, rfl⟩
    obtain ⟨g, hgg⟩ : ∃ g, Hid (goodB p ys = g) := ⟨_, rfl⟩
    rw [hgg.out]
    go_wp2_with fail
    go_ret
    exact ⟨ret_bool hgg.out.symm, HB1.out⟩
  · have hg' : netOk p n L = false := by simpa using hg
    rw [hg'] at HG
    rw [hg', Bool.false_and]
    clear hg hg'
    go_enter Try.func79, Try.ntmps79
    go_wp2_with fail
    refine HG.out.mono ?_
    rintro e w1 ⟨rfl, hb⟩
    have HB1 := hide (HB0.out.trans (hb.mono HB0.out.size))
    clear hb HG
    go_wp2_with fail
    go_ret
    exact ⟨rfl, HB1.out⟩

/-- The lists of a transition, by its number. -/
def inOf (L : List (List Int)) (t : Int) : List Int := L.getD (3 * t.toNat) []
def outOf (L : List (List Int)) (t : Int) : List Int := L.getD (3 * t.toNat + 1) []
def resOf (L : List (List Int)) (t : Int) : List Int := L.getD (3 * t.toNat + 2) []

def firedL (L : List (List Int)) (ys : List Int) (t : Int) : List Int := fireL (inOf L t) (outOf L t) (resOf L t) ys

def fireOk (p : Int) (n : Nat) (L : List (List Int)) (ys : List Int) (t : Int) : Bool :=
  netOk p n L && goodB p ys && inB t 0 ((n : Int) - 1) && canB (inOf L t) ys && goodB p (firedL L ys t)

def fireR (p : Int) (n : Nat) (L : List (List Int)) (ys : List Int) (t : Int) : List Int := if fireOk p n L ys t then firedL L ys t else []

/-- A list and a bool; nothing that was there is written. -/
def REnd (g : Bool) (r : List Int) (w : World) (e : Ending) (w' : World) : Prop := ∃ a n c, e = .returned (.tuple #[.slice a n c, .bool g]) ∧ Row w' a n r ∧ Below w.heap.size w w'

theorem rend_no {p : Int} {n : Nat} {L : List (List Int)} {ys : List Int} {t : Int} {w w' : World} (h : fireOk p n L ys t = false) (hb : Below w.heap.size w w') : REnd (fireOk p n L ys t) (fireR p n L ys t) w (.returned (.tuple #[.slice none 0 0, .bool false])) w' := by
  refine ⟨none, 0, 0, by rw [h], ⟨?_, .inl rfl⟩, hb⟩
  unfold fireR; rw [h]; rfl

theorem rend_yes {p : Int} {n : Nat} {L : List (List Int)} {ys : List Int} {t : Int} {w w' : World} {a : Option Addr} {m c : Nat} (h : fireOk p n L ys t = true) (hr : Row w' a m (firedL L ys t)) (hb : Below w.heap.size w w') : REnd (fireOk p n L ys t) (fireR p n L ys t) w (.returned (.tuple #[.slice a m c, .bool true])) w' := by
  refine ⟨a, m, c, by rw [h], ?_, hb⟩
  unfold fireR; rw [h]; exact hr

theorem fireOk_no1 {p : Int} {n : Nat} {L : List (List Int)} {ys : List Int} {t : Int} (h : (netOk p n L && goodB p ys) = false) : fireOk p n L ys t = false := by unfold fireOk; rw [h]; rfl
theorem fireOk_no2 {p : Int} {n : Nat} {L : List (List Int)} {ys : List Int} {t : Int} (h : inB t 0 ((n : Int) - 1) = false) : fireOk p n L ys t = false := by unfold fireOk; rw [h]; simp
theorem fireOk_no3 {p : Int} {n : Nat} {L : List (List Int)} {ys : List Int} {t : Int} (h : canB (inOf L t) ys = false) : fireOk p n L ys t = false := by unfold fireOk; rw [h]; simp
theorem fireOk_no4 {p : Int} {n : Nat} {L : List (List Int)} {ys : List Int} {t : Int} (h : goodB p (firedL L ys t) = false) : fireOk p n L ys t = false := by unfold fireOk; rw [h]; simp
theorem fireOk_yes {p : Int} {n : Nat} {L : List (List Int)} {ys : List Int} {t : Int} (h : (netOk p n L && goodB p ys) = true) (h2 : inB t 0 ((n : Int) - 1) = true) (h3 : canB (inOf L t) ys = true) (h4 : goodB p (firedL L ys t) = true) : fireOk p n L ys t = true := by
  unfold fireOk; rw [h, h2, h3, h4]; rfl

theorem triOkOf {p : Int} {n i : Nat} {L : List (List Int)} (h : netOk p n L = true) (hi : i < n) : triOk p L i = true := by
  unfold netOk at h
  rw [Bool.and_eq_true] at h
  exact List.all_eq_true.mp h.2 i (by simpa using hi)

theorem tri_rise {p : Int} {L : List (List Int)} {i : Nat} (h : triOk p L i = true) : riseB (L.getD (3 * i) []) 0 (p - 1) = true ∧ riseB (L.getD (3 * i + 1) []) 0 (p - 1) = true ∧ riseB (L.getD (3 * i + 2) []) 0 (p - 1) = true := by
  unfold triOk at h
  simp only [Bool.and_eq_true] at h
  exact ⟨h.1.1.2, h.1.2, h.2⟩

theorem netOkN {p : Int} {n : Nat} {L : List (List Int)} (h : netOk p n L = true) : n ≤ 24 := by
  unfold netOk at h; simp at h; exact h.1.2

end Go.Proofs.Ytakenobplljkbab


/- What bothTokensOf answers, for every number of places and every two lists: both arrays and true where both are good marks, else false; nothing that was there is written. -/
namespace Go.Proofs.Ytakenobplljkbab
open Go.RowKit

def tokL (f : Nat → Int) : List Value := (tokF f).toList

theorem tokL_len (f : Nat → Int) : (tokL f).length = 16 := by simp [tokL, tokF_size]
theorem tokL_arr (f : Nat → Int) : (tokL f).toArray = tokF f := by simp [tokL]
theorem tokL_one (f : Nat → Int) : ∀ v ∈ tokL f, v.oneCell' = true := by
  intro v hv
  exact Array.all_eq_true_iff_forall_mem.1 (tokF_one f) v (by simpa [tokL] using hv)

theorem range_of_block {w : World} {b : Nat} {f : Nat → Int} {t : TypeId} {fr : Nat × Nat} (hb : w.heap[b]? = some (.cells (tokF f) t fr)) : w.rangeAt b 0 (tokL f) := by
  intro j v hv
  rw [cell_of_row w b (0 + j) _ t fr hb, Nat.zero_add]
  simpa [tokL] using hv

theorem there_of_block {w : World} {b : Nat} {C : Array Value} {t : TypeId} (hb : w.heap[b]? = some (.cells C t (0, 0))) (hs : C.size = 16) : w.there b 0 16 := by
  intro j hj
  refine ⟨?_, frozen_of_row w b _ C t hb⟩
  rw [cell_of_row w b (0 + j) _ t (0, 0) hb, Nat.zero_add, Array.getElem?_eq_getElem (by omega)]
  rfl

theorem setRow_same {w : World} {b : Nat} {C : Array Value} {t : TypeId} (hb : w.heap[b]? = some (.cells C t (0, 0))) (D : Array Value) : (w.setRow b D).heap[b]? = some (.cells D t (0, 0)) := by
  simp only [World.setRow, Array.getElem?_modify]
  rw [if_pos trivial, hb]
  rfl

theorem setRow_other (w : World) (b k : Nat) (D : Array Value) (h : k ≠ b) : (w.setRow b D).heap[k]? = w.heap[k]? := by
  simp only [World.setRow, Array.getElem?_modify]
  rw [if_neg (by omega)]

theorem below_setCells {B : Nat} {a w : World} (h : Below B a w) (b o : Nat) (hb : B ≤ b) (vs : List Value) : Below B a (w.setCells b o vs) := by
  induction vs generalizing w o with
  | nil => exact h
  | cons v r ih => exact ih (h.setCell hb v) (o + 1)

theorem results_cells_tmp {fn : Func} {p q u : Tmp} {ty tz : TypeId} (h : fn.results = #[.cell p ty, .cell q tz, .tmp u]) (tmps : Array Value) (P : Program) (w : World) :
    (results fn tmps).run P w =
      ((asAddr (tmps.getD p undef)).run P w).andThen fun a w₁ => ((loadVar ty a).run P w₁).andThen fun v w₂ =>
        ((asAddr (tmps.getD q undef)).run P w₂).andThen fun b w₃ => ((loadVar tz b).run P w₃).andThen fun v' w₄ => .ok (.tuple #[v, v', tmps.getD u undef]) w₄ := by
  simp only [results, h]
  simp [Sem.run_bind, Result.andThen]

theorem cons_store {P : Program} {md : Region.Mode} {ops : Array Oper} {Q : Exit → Act → World → Prop} {fuel : Nat} {listed : Array Bool} {a : Act} {w : World} {i : Nat} {o : Oper} {rs : List Nat} (ho : ops[i]? = some o)
    (hgd : o.guard = none) (hd : o.dst = none) (ty : TypeId) (x y : Operand) (hop : o.op = .store ty x y)
    (g : Nat) (cells : Array Value) (hx : a.eval x = .pointer (some ⟨g, 0, none⟩)) (hy : a.eval y = .agg cells)
    (t : TypeId) (old : Array Value) (hg : w.heap[g]? = some (.cells old t (0, 0))) (hi : (P.info? ty).map (·.size) = some cells.size)
    (hold : old.size = cells.size) (h1 : cells.all (·.oneCell') = true)
    (h : wpAny P md ops Q fuel (listed.setIfInBounds i true) a (w.setRow g cells))
    (hs : AllReady P md ops Q fuel listed a w rs) : AllReady P md ops Q fuel listed a w (i :: rs) := by
  refine AllReady.cons ho (fun K hK => ?_) hs
  rw [if_pos (by simp [Region.wanted, hgd])]
  refine wp_store_row ty x y hop g cells hx hy t old hg hi hold h1 (hK _ _ ?_)
  rw [hd]
  exact h

theorem cons_load {P : Program} {md : Region.Mode} {ops : Array Oper} {Q : Exit → Act → World → Prop} {fuel : Nat} {listed : Array Bool} {a : Act} {w : World} {i : Nat} {o : Oper} {rs : List Nat} (ho : ops[i]? = some o)
    (hgd : o.guard = none) (d : Option Tmp) (hd : o.dst = d) (ty : TypeId) (x : Operand) (hop : o.op = .load ty x)
    (g : Nat) (cells : Array Value) (hx : a.eval x = .pointer (some ⟨g, 0, none⟩))
    (t : TypeId) (n : Nat) (e : TypeId) (hu : P.underlying ty = some (.array n e)) (hg : w.heap[g]? = some (.cells cells t (0, 0))) (hi : (P.info? ty).map (·.size) = some cells.size)
    (h : wpAny P md ops Q fuel (listed.setIfInBounds i true) (a.put d (.agg cells)) w)
    (hs : AllReady P md ops Q fuel listed a w rs) : AllReady P md ops Q fuel listed a w (i :: rs) := by
  refine AllReady.cons ho (fun K hK => ?_) hs
  rw [if_pos (by simp [Region.wanted, hgd])]
  refine wp_load_row ty x hop g hx t cells (0, 0) _ hg hu rfl hi (hK _ _ ?_)
  rw [hd]
  exact h

theorem cons_assign {P : Program} {md : Region.Mode} {ops : Array Oper} {Q : Exit → Act → World → Prop} {fuel : Nat} {listed : Array Bool} {a : Act} {w : World} {i : Nat} {o : Oper} {rs : List Nat} (ho : ops[i]? = some o)
    (hgd : o.guard = none) (d : Option Tmp) (hd : o.dst = d) (x : Operand) (hop : o.op = .assign x)
    (h : wpAny P md ops Q fuel (listed.setIfInBounds i true) (a.put d (a.eval x)) w)
    (hs : AllReady P md ops Q fuel listed a w rs) : AllReady P md ops Q fuel listed a w (i :: rs) := by
  refine AllReady.cons ho (fun K hK => ?_) hs
  rw [if_pos (by simp [Region.wanted, hgd])]
  unfold Oper.wp
  simp only [execOp, hop, Sem.run_pure]
  refine hK _ _ ?_
  rw [hd]
  exact h

set_option maxRecDepth 10000 in
theorem both_results {fn : Func} (hr : fn.results = #[.cell 6 76, .cell 7 76, .tmp 8]) (tmps : Array Value) (W : World) (b6 b7 : Nat) (f g : Nat → Int) (v : Value)
    (h6 : tmps.getD 6 undef = .pointer (some ⟨b6, 0, none⟩)) (h7 : tmps.getD 7 undef = .pointer (some ⟨b7, 0, none⟩)) (h8 : tmps.getD 8 undef = v)
    (q6 : W.heap[b6]? = some (.cells (tokF f) 76 (0, 0))) (q7 : W.heap[b7]? = some (.cells (tokF g) 76 (0, 0))) :
    (results fn tmps).run Try.prog W = .ok (.tuple #[.agg (tokF f), .agg (tokF g), v]) W := by
  refine (results_cells_tmp hr _ _ _).trans ?_
  rw [h6, h7, h8]
  show ((loadVar 76 ⟨b6, 0, none⟩).run Try.prog W).andThen _ = _
  rw [run_loadVar_row _ _ 76 76 (tokF f) (0, 0) _ q6 Try.underlying76 rfl (by rw [tokF_size]; exact Try.size76)]
  show ((loadVar 76 ⟨b7, 0, none⟩).run Try.prog W).andThen _ = _
  rw [run_loadVar_row _ _ 76 76 (tokF g) (0, 0) _ q7 Try.underlying76 rfl (by rw [tokF_size]; exact Try.size76)]
  rfl

theorem below_rows {B : Nat} {w V : World} (h : Below B w V) (b c : Nat) (hb : B ≤ b) (hc : B ≤ c) (C D : Array Value) : Below B w ((V.drew.setRow b C).setRow c D) :=
  below_setRow (below_setRow h.drew _ hb _) _ hc _

theorem lit_one : (#[.int .u8 0, .int .u8 0, .int .u8 0, .int .u8 0, .int .u8 0, .int .u8 0, .int .u8 0, .int .u8 0, .int .u8 0, .int .u8 0, .int .u8 0, .int .u8 0, .int .u8 0, .int .u8 0, .int .u8 0, .int .u8 0] : Array Value).all (·.oneCell') = true := by
  rw [← packOf_zero []]; exact packOf_one _ _

end Go.Proofs.Ytakenobplljkbab
