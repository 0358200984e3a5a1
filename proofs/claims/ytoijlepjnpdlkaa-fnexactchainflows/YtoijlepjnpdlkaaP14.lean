/- Contracts that the proof stands on, one behind the other. -/
import Derived.Test.YtoijlepjnpdlkaaP13
import Derived.WalkKit
import Derived.ProofKit
import Derived.OpenShut
import Derived.ChangeOld
import Derived.Below
import Derived.Deep.CutRange
import Derived.Deep.RegionHeld3
/- What the second half of a law over a flow or a net keeps in mind, its answer being one list or two; markFlow. -/
namespace Go.Proofs.Ytoijlepjnpdlkaa
open Go.RowKit
set_option maxRecDepth 10000

/-- w: the world ahead of the law; u: behind the specification's answer; v: now. -/
structure Sz (w u v : World) (Cp Cx : Array Value) (Tp Tx : TypeId) (n B hi bx : Nat) (M : Nat → List Int) (ag : Option Addr) (bg ng : Nat) (lg : List Int) (ah : Option Addr) (bh nh : Nat) (lh : List Int) : Prop where
  old : Below w.heap.size w v
  mid : Below u.heap.size u v
  par : v.heap[w.heap.size]? = some (.cells Cp Tp (0, 0))
  x0 : v.heap[bx]? = some (.cells Cx Tx (0, 0))
  net : PartF v B hi (3 * n) 44 M
  g : Ob v ag bg ng lg
  h : Ob v ah bh nh lh

section
variable {w u v v' : World} {Cp Cx : Array Value} {Tp Tx : TypeId} {n B hi bx : Nat} {M : Nat → List Int} {ag : Option Addr} {bg ng : Nat} {lg l : List Int} {ah : Option Addr} {bh nh : Nat} {lh : List Int}

theorem Sz.grow (h : Sz w u v Cp Cx Tp Tx n B hi bx M ag bg ng lg ah bh nh lh) (hb : Below v.heap.size v v') : Sz w u v' Cp Cx Tp Tx n B hi bx M ag bg ng lg ah bh nh lh :=
  ⟨h.old.trans (hb.mono h.old.size), h.mid.trans (hb.mono h.mid.size), keep h.par hb, keep h.x0 hb, h.net.grow hb, h.g.grow hb, h.h.grow hb⟩

theorem Sz.markN {M' : Nat → List Int} (h : Sz w u v Cp Cx Tp Tx n B hi bx M ag bg ng lg ah bh nh lh) (hm : PartF v' B hi (3 * n) 44 M') (hk : Keeps (B + 1) hi v v') (h1 : w.heap.size ≤ B) (h2 : u.heap.size ≤ B) (hx : hi ≤ bx) (hg : hi ≤ bg) (hh : hi ≤ bh) :
    Sz w u v' Cp Cx Tp Tx n B hi bx M' ag bg ng lg ah bh nh lh :=
  ⟨h.old.trans (hk.bel.mono (by omega)), h.mid.trans (hk.bel.mono (by omega)), (hk.bel.block _ (by omega)).trans h.par, (hk.top bx hx (row_lt h.x0)).trans h.x0, hm, h.g.keeps hk hg, h.h.keeps hk hh⟩

theorem Sz.markG (h : Sz w u v Cp Cx Tp Tx n B hi bx M ag bg ng lg ah bh nh lh) (hm : Ob v' ag bg ng l) (ho : Only bg v v') (h1 : w.heap.size < bg) (h2 : u.heap.size ≤ bg) (hb : hi ≤ bg) (hB : B ≠ bg) (hx : bx ≠ bg) (hy : bh ≠ bg) :
    Sz w u v' Cp Cx Tp Tx n B hi bx M ag bg ng l ah bh nh lh :=
  ⟨h.old.trans (ho.below (by omega)), h.mid.trans (ho.below h2), (ho.block _ (by omega)).trans h.par, (ho.block _ hx).trans h.x0, h.net.only ho hb hB, hm, h.h.only ho hy⟩

theorem Sz.markH (h : Sz w u v Cp Cx Tp Tx n B hi bx M ag bg ng lg ah bh nh lh) (hm : Ob v' ah bh nh l) (ho : Only bh v v') (h1 : w.heap.size < bh) (h2 : u.heap.size ≤ bh) (hb : hi ≤ bh) (hB : B ≠ bh) (hx : bx ≠ bh) (hy : bg ≠ bh) :
    Sz w u v' Cp Cx Tp Tx n B hi bx M ag bg ng lg ah bh nh l :=
  ⟨h.old.trans (ho.below (by omega)), h.mid.trans (ho.below h2), (ho.block _ (by omega)).trans h.par, (ho.block _ hx).trans h.x0, h.net.only ho hb hB, h.g.only ho hy, hm⟩
end

theorem cells4c {w : World} {b : Nat} {v0 v1 v2 v3 : Value} {T : TypeId} (h : w.heap[b]? = some (.cells #[v0, v1, v2, v3] T (0, 0))) :
    w.cell? ⟨b, 0, none⟩ = some v0 ∧ w.cell? ⟨b, 1, none⟩ = some v1 ∧ w.cell? ⟨b, 2, none⟩ = some v2 ∧ w.cell? ⟨b, 3, none⟩ = some v3 :=
  ⟨cell_of_row w b 0 _ _ _ h, cell_of_row w b 1 _ _ _ h, cell_of_row w b 2 _ _ _ h, cell_of_row w b 3 _ _ _ h⟩

set_option maxHeartbeats 400000 in
theorem markFlow_any (p f t : Int) (B hi n c k0 : Nat) (T : TypeId) (M : Nat → List Int) (w : World) (h : PartF w B hi (3 * n) T M) (hs : cntF M (3 * n) ≤ 1048576) (hn : n ≤ 1048576) (hk0 : k0 ≤ 2097152) :
    Calls Try.prog 9 #[.agg #[.int .i64 p, .slice (some ⟨B, 0, none⟩) n c, .int .i64 f, .int .i64 t], .int .i64 (k0 : Int)] w fun e w' => e = .returned (.int .i64 ((k0 + cntF M (3 * n) : Nat) : Int)) ∧ PartF w' B hi (3 * n) T (markedF k0 M (3 * n)) ∧ Keeps (B + 1) hi w w' := by
  have hA := below_al w (.cells #[.int .i64 p, .slice (some ⟨B, 0, none⟩) n c, .int .i64 f, .int .i64 t] 32)
  have hlt : B < w.heap.size := by obtain ⟨C, f, h1, _⟩ := h; exact (Array.getElem?_eq_some_iff.mp h1).1
  have HT := hide (markNet_any p B hi n c k0 T M _ (h.grow hA) hs hn hk0)
  have HK := hide (Keeps.of_below (lo := B + 1) (hi := hi) hA (by omega))
  obtain ⟨t0, ht0⟩ : ∃ t, Hid (k0 + cntF M (3 * n) = t) := ⟨_, rfl⟩
  rw [ht0.out] at HT ⊢
  clear h hA
  go_enter Try.func9, Try.ntmps9
  go_wp2_with fail
  refine HT.out.mono ?_
  rintro e w3 ⟨rfl, p3, kp3⟩
  have HP3 := hide p3
  have HK3 := hide (HK.out.trans kp3)
  clear p3 kp3 HT HK
  go_wp2_with fail
  go_ret
  exact ⟨rfl, HP3.out, HK3.out⟩
end Go.Proofs.Ytoijlepjnpdlkaa


/- How a flow that comes in is opened. -/
namespace Go.Proofs.Ytoijlepjnpdlkaa
open Go.ChangeShapes Go.WideShapes Go.ChangeAt Go.RowKit Go.Deep Go.Joins

set_option maxRecDepth 10000 in
theorem trans_of {H : Type} {enc : TypeId × Value → H} {W : World} {base fuel : Nat} {v1 : Value} {x : DataW H × List MemPlace} (h1 : DataW.trod enc Try.prog W base (fun _ => true) true fuel 22 [v1] = some x) :
    ∃ a n c L, v1 = .slice a n c ∧ n ≤ maxLen ∧ Lists W a (3 * n) L := by
  have hC : Try.prog.cellsOf 83 = 3 := by kernel_rfl
  rcases open_slice Try.underlying22 h1 with ⟨hcs, _⟩ | ⟨a, len, cap, q, n', D, Pl, hcs, hb, hl, hm, hq, _, hel⟩
  · simp at hcs
    subst hcs
    exact ⟨none, 0, 0, [], rfl, Nat.zero_le _, rfl, .inl rfl⟩
  · simp at hcs
    subst hcs
    simp at hq
    subst hq
    rw [hC] at hel
    have key : ∀ i, i < len → ∃ (t : (Option Addr × Nat × Nat × List Int) × (Option Addr × Nat × Nat × List Int) × (Option Addr × Nat × Nat × List Int)),
        (W.cell? (a.add (i * 3)) = some (.slice t.1.1 t.1.2.1 t.1.2.2.1) ∧ t.1.2.1 ≤ maxLen ∧ Row W t.1.1 t.1.2.1 t.1.2.2.2) ∧
        (W.cell? ((a.add (i * 3)).add 1) = some (.slice t.2.1.1 t.2.1.2.1 t.2.1.2.2.1) ∧ t.2.1.2.1 ≤ maxLen ∧ Row W t.2.1.1 t.2.1.2.1 t.2.1.2.2.2) ∧
        (W.cell? ((a.add (i * 3)).add 2) = some (.slice t.2.2.1 t.2.2.2.1 t.2.2.2.2.1) ∧ t.2.2.2.1 ≤ maxLen ∧ Row W t.2.2.1 t.2.2.2.1 t.2.2.2.2.2) := by
      intro i hi
      obtain ⟨cs', hc1, hc2⟩ := hel i (by omega)
      obtain ⟨_, hlen, hcell⟩ := World.cells?_some hc1
      obtain ⟨y0, y1, y2, m', _, _, g0, g1, g2⟩ := trod_struct3 Try.underlying83 hc2
      match cs', hlen with
      | [u0, u1, u2], _ =>
        have k0 : Try.prog.cellsOf 42 = 1 := by kernel_rfl
        simp [k0] at g0 g1 g2
        obtain ⟨a0, n0, c0, x0, rfl, l0, r0⟩ := row_of_ints g0
        obtain ⟨a1, n1, c1, x1, rfl, l1, r1⟩ := row_of_ints g1
        obtain ⟨a2, n2, c2, x2, rfl, l2, r2⟩ := row_of_ints g2
        have w0 := hcell 0 (by omega)
        have w1 := hcell 1 (by omega)
        have w2 := hcell 2 (by omega)
        simp at w0 w1 w2
        refine ⟨((a0, n0, c0, x0), (a1, n1, c1, x1), (a2, n2, c2, x2)), ⟨by simpa [Addr.add] using w0, l0, r0⟩, ⟨w1, l1, r1⟩, ⟨w2, l2, r2⟩⟩
    obtain ⟨f, hf⟩ := choose_lt key
    refine ⟨some a, len, _, (List.range (3 * len)).map fun j => if j % 3 = 0 then (f (j / 3)).1.2.2.2 else if j % 3 = 1 then (f (j / 3)).2.1.2.2.2 else (f (j / 3)).2.2.2.2.2, rfl, by omega, by simp, ?_⟩
    by_cases h0 : len = 0
    · exact .inl (by omega)
    · obtain ⟨b, off, spot⟩ := a
      have hc := (hf 0 (by omega)).1.1
      have hspot : spot = none := by simpa [Addr.add] using World.cell?_spot hc
      subst hspot
      refine .inr ⟨b, off, rfl, ?_, fun j hj => ?_⟩
      · have := block_lt_of_cell hc; simpa [Addr.add] using this
      · have hj3 : j / 3 < len := by omega
        obtain ⟨q0, q1, q2⟩ := hf (j / 3) hj3
        simp only [Addr.add_mid] at q0 q1 q2
        simp only [List.getD_eq_getElem?_getD, List.getElem?_map, List.getElem?_range hj, Option.map_some, Option.getD_some]
        by_cases e0 : j % 3 = 0
        · rw [if_pos e0]
          have : off + j = off + j / 3 * 3 := by omega
          rw [this]; exact ⟨_, _, _, q0⟩
        · rw [if_neg e0]
          by_cases e1 : j % 3 = 1
          · rw [if_pos e1]
            have : off + j = off + j / 3 * 3 + 1 := by omega
            rw [this]; exact ⟨_, _, _, q1⟩
          · rw [if_neg e1]
            have : off + j = off + j / 3 * 3 + 2 := by omega
            rw [this]; exact ⟨_, _, _, q2⟩


set_option maxRecDepth 10000 in
theorem open_flow {H : Type} {enc : TypeId × Value → H} {W : World} {base b0 : Nat} {r : Reach} {v : Value} {d : DataW H} {ps : List MemPlace} (hv : Value.okWide Try.prog W r b0 26 v) (h : DataW.Trod enc Try.prog W base (fun _ => true) true 26 v d ps) :
    ∃ p a n c f t L, v = .agg #[.int .i64 p, .slice a n c, .int .i64 f, .int .i64 t] ∧ n ≤ maxLen ∧ Lists W a (3 * n) L := by
  obtain ⟨cs, rfl, hsz⟩ := okWide_struct Try.underlying26 hv
  have hC4 : Try.prog.cellsOf 26 = 4 := by kernel_rfl
  rw [hC4] at hsz
  obtain ⟨fuel, hf⟩ := h
  obtain ⟨l⟩ := cs
  match l, hsz with
  | [u0, u1, u2, u3], _ =>
    simp only [Value.cells] at hf
    obtain ⟨y0, y1, y2, m', _, _, g0, g1, g2⟩ := trod_struct3 Try.underlying26 hf
    have k0 : Try.prog.cellsOf 24 = 2 := by kernel_rfl
    have k1 : Try.prog.cellsOf 3 = 1 := by kernel_rfl
    simp [k0, k1] at g0 g1 g2
    obtain ⟨z0, z1, m'', _, _, g3, g4⟩ := trod_struct2 Try.underlying24 g0
    simp [k1] at g3 g4
    obtain ⟨a, n, c, L, rfl, hm, hl⟩ := trans_of g4
    obtain ⟨p, hp, _, _⟩ := DataW.trod_int Try.underlying3 g3
    obtain ⟨f, hf1, _, _⟩ := DataW.trod_int Try.underlying3 g1
    obtain ⟨t, ht, _, _⟩ := DataW.trod_int Try.underlying3 g2
    simp at hp hf1 ht
    subst hp hf1 ht
    exact ⟨p, a, n, c, f, t, L, rfl, hm, hl⟩
end Go.Proofs.Ytoijlepjnpdlkaa


/- Flows in the laws: szFlow, toFlow, eqFlow. -/
namespace Go.Proofs.Ytoijlepjnpdlkaa
open Go.RowKit
set_option maxRecDepth 10000

set_option maxHeartbeats 400000 in
theorem szFlow_any (p f t : Int) (a : Option Addr) (n c : Nat) (L : List (List Int)) (w : World) (h : Lists w a (3 * n) L) (hn : n ≤ maxLen) :
    Calls Try.prog 4 #[.agg #[.int .i64 p, .slice a n c, .int .i64 f, .int .i64 t], .int .i64 1048576] w fun e w' => e = .returned (.int .i64 (leftOf 1048576 (sizeN n L))) ∧ Below w.heap.size w w' := by
  have HA := hide (below_al w (.cells #[.int .i64 p, .slice a n c, .int .i64 f, .int .i64 t] 26))
  have HL := hide (h.below HA.out)
  clear h
  go_enter Try.func4, Try.ntmps4
  go_wp2_with fail
  refine (szNet_any _ _ _ _ L _ HL.out hn).mono ?_
  rintro e w1 ⟨rfl, hb⟩
  have HB := hide (HA.out.trans (hb.mono HA.out.size))
  clear hb
  by_cases g : leftOf 1048576 (sizeN n L) < 0
  · have HS := hide (leftOf_neg_add 0 g)
    rw [Nat.add_zero] at HS
    obtain ⟨l2, hl2'⟩ : ∃ l2, Hid (leftOf 1048576 (sizeN n L) = l2) := ⟨_, rfl⟩
    rw [hl2'.out] at g ⊢
    go_wp2_with fail
    go_ret
    exact ⟨ret_int HS.out.symm, HB.out⟩
  obtain ⟨l0, hl0⟩ : ∃ l0, Hid (leftOf 1048576 (sizeN n L) = l0) := ⟨_, rfl⟩
  rw [hl0.out] at g ⊢
  go_wp2_with fail
  go_ret
  exact ⟨ret_int hl0.out.symm, HB.out⟩

set_option maxHeartbeats 2000000 in
theorem toFlow_any (p f t : Int) (a : Option Addr) (n c : Nat) (L : List (List Int)) (w : World) (h : Lists w a (3 * n) L) (hs : sizeN n L ≤ 1048576) :
    Calls Try.prog 6 #[.agg #[.int .i64 p, .slice a n c, .int .i64 f, .int .i64 t]] w fun e w' => ∃ B, e = .returned (.agg #[.int .i64 p, .slice (some ⟨B, 0, none⟩) n n, .int .i64 f, .int .i64 t]) ∧ w.heap.size ≤ B ∧ PartL w' B (3 * n) (3 * n) 44 L ∧ Below w.heap.size w w' := by
  have HL := hide h
  clear h
  go_enter Try.func6, Try.ntmps6
  go_wp2_with fail
  have HB0 := hide (((below_al w (.cells #[.int .i64 p, .slice a n c, .int .i64 f, .int .i64 t] 26)).alloc (by simp) (.cells #[.int .i64 0, .slice none 0 0, .int .i64 0, .int .i64 0] 32)).alloc (by simp; omega) (.cells #[.int .i64 0, .slice none 0 0, .int .i64 0, .int .i64 0] 32))
  refine (toNet_any _ _ _ _ L _ (HL.out.below HB0.out) hs).mono ?_
  rintro e w' ⟨B, rfl, hBs, hp, hb⟩
  have hsz : (((w.alloc (.cells #[.int .i64 p, .slice a n c, .int .i64 f, .int .i64 t] 26)).alloc (.cells #[.int .i64 0, .slice none 0 0, .int .i64 0, .int .i64 0] 32)).alloc (.cells #[.int .i64 0, .slice none 0 0, .int .i64 0, .int .i64 0] 32)).heap.size = w.heap.size + 1 + 1 + 1 := by simp
  rw [hsz] at hBs
  have g2 : w'.heap[w.heap.size + 1 + 1]? = some (.cells #[.int .i64 0, .slice none 0 0, .int .i64 0, .int .i64 0] 32 (0, 0)) := by
    rw [hb.block _ (by omega)]
    have := heap_alloc_new ((w.alloc (.cells #[.int .i64 p, .slice a n c, .int .i64 f, .int .i64 t] 26)).alloc (.cells #[.int .i64 0, .slice none 0 0, .int .i64 0, .int .i64 0] 32)) (.cells #[.int .i64 0, .slice none 0 0, .int .i64 0, .int .i64 0] 32)
    simpa using this
  have g1 : w'.heap[w.heap.size + 1]? = some (.cells #[.int .i64 0, .slice none 0 0, .int .i64 0, .int .i64 0] 32 (0, 0)) := by
    rw [hb.block _ (by omega), heap_al_old _ _ _ (by simp)]
    have := heap_alloc_new (w.alloc (.cells #[.int .i64 p, .slice a n c, .int .i64 f, .int .i64 t] 26)) (.cells #[.int .i64 0, .slice none 0 0, .int .i64 0, .int .i64 0] 32)
    simpa using this
  have g0 : w'.heap[w.heap.size]? = some (.cells #[.int .i64 p, .slice a n c, .int .i64 f, .int .i64 t] 26 (0, 0)) := by
    rw [hb.block _ (by omega), heap_al_old _ _ _ (by simp; omega), heap_al_old _ _ _ (by simp)]
    exact heap_alloc_new w (.cells #[.int .i64 p, .slice a n c, .int .i64 f, .int .i64 t] 26)
  obtain ⟨⟨c00, c01, c02, c03⟩, _⟩ := cells4 g0
  obtain ⟨⟨c10, c11, c12, c13⟩, f10, f11, f12, f13⟩ := cells4 g1
  obtain ⟨⟨c20, c21, c22, c23⟩, f20, f21, f22, f23⟩ := cells4 g2
  have HP := hide hp
  have HB := hide (HB0.out.trans (hb.mono (by simp; omega)))
  have HBs := hide hBs
  clear hb hp g0 g1 g2 hsz HB0 hBs
  go_wp2_with fail
  refine bodyPost_ret (v := .agg #[.int .i64 p, .slice (some ⟨B, 0, none⟩) n n, .int .i64 f, .int .i64 t]) (by simp [results, Try.results6, go_sem, c10, c11, c12, c13]) rfl ?_
  have hB := HBs.out
  exact ⟨_, rfl, by omega, (((((((HP.out.set_low (by omega) _ _).set_low (by omega) _ _).set_low (by omega) _ _).set_low (by omega) _ _).set_low (by omega) _ _).set_low (by omega) _ _).set_low (by omega) _ _).set_low (by omega) _ _,
    below_set4 ((((HB.out.setCell (by simp; omega) _).setCell (by simp; omega) _).setCell (by simp; omega) _).setCell (by simp; omega) _) (by omega) _ _ _ _⟩

set_option maxHeartbeats 1000000 in
theorem eqFlow_any (p f t : Int) (a d : Option Addr) (n c e : Nat) (L : List (List Int)) (w : World) (h : Lists w a (3 * n) L) (g : Lists w d (3 * n) L) (hs : sizeN n L ≤ 1048576) :
    Calls Try.prog 8 #[.agg #[.int .i64 p, .slice a n c, .int .i64 f, .int .i64 t], .agg #[.int .i64 p, .slice d n e, .int .i64 f, .int .i64 t]] w fun e w' => e = .returned (.bool true) ∧ Below w.heap.size w w' := by
  have hne : (f != f) = false := by simp
  have hne2 : (t != t) = false := by simp
  have HA := hide (below_two w (.cells #[.int .i64 p, .slice a n c, .int .i64 f, .int .i64 t] 32) (.cells #[.int .i64 p, .slice d n e, .int .i64 f, .int .i64 t] 32))
  have HX := hide (keep (heap_alloc_new w (.cells #[.int .i64 p, .slice a n c, .int .i64 f, .int .i64 t] 32)) (below_al _ (.cells #[.int .i64 p, .slice d n e, .int .i64 f, .int .i64 t] 32)))
  have hy := heap_alloc_new (w.alloc (.cells #[.int .i64 p, .slice a n c, .int .i64 f, .int .i64 t] 32)) (.cells #[.int .i64 p, .slice d n e, .int .i64 f, .int .i64 t] 32)
  rw [show (w.alloc (.cells #[.int .i64 p, .slice a n c, .int .i64 f, .int .i64 t] 32)).heap.size = w.heap.size + 1 by simp] at hy
  have HY := hide hy
  have HE := hide (eqNet_any p a d n c e L _ (h.below HA.out) (g.below HA.out) hs)
  clear h g hy
  go_enter Try.func8, Try.ntmps8
  go_wp2_with fail
  refine HE.out.mono ?_
  rintro e w1 ⟨rfl, hb⟩
  have HB := hide (HA.out.trans (hb.mono HA.out.size))
  obtain ⟨⟨hx0, hx1, hx2, hx3⟩, _⟩ := cells4 (keep HX.out hb)
  obtain ⟨⟨hy0, hy1, hy2, hy3⟩, _⟩ := cells4 (keep HY.out hb)
  clear hb HE HX HY
  go_wp2_with fail
  go_ret
  exact ⟨rfl, HB.out⟩
end Go.Proofs.Ytoijlepjnpdlkaa


/- What stays of nets and rows where other memory is written. -/
namespace Go.Proofs.Ytoijlepjnpdlkaa
open Go.RowKit
set_option maxRecDepth 10000

theorem NetG.lowerX {w : World} {a : Option Addr} {B lo lo' hi n : Nat} {M : Nat → List Int} (h : NetG w a B lo hi n M) (hl : lo' ≤ lo) : NetG w a B lo' hi n M := by
  rcases h with h0 | ⟨e, C, A, f, cap, h1, h2, h3, h4⟩
  · exact .inl h0
  · refine .inr ⟨e, C, A, f, cap, h1, h2, fun j hj => ?_, h4⟩
    obtain ⟨q1, q2, q3⟩ := h3 j hj
    exact ⟨q1, q2, fun hm => ⟨Nat.le_trans hl (q3 hm).1, (q3 hm).2⟩⟩

theorem NetG.growX {w w' : World} {a : Option Addr} {B lo hi n : Nat} {M : Nat → List Int} (h : NetG w a B lo hi n M) (hb : Below w.heap.size w w') : NetG w' a B lo hi n M := by
  rcases h with h0 | ⟨e, hp⟩
  · exact .inl h0
  · exact .inr ⟨e, hp.grow hb⟩

theorem NetG.keepsX {w w' : World} {a : Option Addr} {B lo hi n lo' hi' : Nat} {M : Nat → List Int} (h : NetG w a B lo hi n M) (hk : Keeps lo' hi' w w') (h1 : hi' ≤ lo) (h2 : hi' ≤ B) : NetG w' a B lo hi n M := by
  rcases h with h0 | ⟨e, hp⟩
  · exact .inl h0
  · exact .inr ⟨e, hp.keeps hk h1 h2⟩

theorem Keeps.atTopX {lo hi : Nat} {w w' : World} (h : Keeps lo hi w w') {b : Nat} {o : Obj} (hb : w.heap[b]? = some o) (hh : hi ≤ b) : w'.heap[b]? = some o := (h.top b hh (Array.getElem?_eq_some_iff.mp hb).1).trans hb
theorem Keeps.atLowX {lo hi : Nat} {w w' : World} (h : Keeps lo hi w w') {b : Nat} {o : Obj} (hb : w.heap[b]? = some o) (hh : b < lo) : w'.heap[b]? = some o := (h.bel.block b hh).trans hb

theorem PartF.lowX {w w' : World} {B hi n lo : Nat} {T : TypeId} {M : Nat → List Int} (h : PartF w B hi n T M) (hb : Below lo w w') (hB : B < lo) (hh : hi ≤ lo) : PartF w' B hi n T M := by
  obtain ⟨C, f, h1, h2, h3, h4⟩ := h
  refine ⟨C, f, (hb.block B hB).trans h1, h2, fun j hj => ?_, h4⟩
  obtain ⟨e1, e2, e3, e4⟩ := h3 j hj
  refine ⟨e1, e2, e3, e4.1, ?_⟩
  rcases e4.2 with h0 | ⟨e, hh'⟩
  · exact .inl h0
  · exact .inr ⟨e, (hb.block _ (by omega)).trans hh'⟩

theorem PartF.overX {w w' : World} {B hi n lo hi' : Nat} {T : TypeId} {M : Nat → List Int} (h : PartF w B hi n T M) (hk : Keeps lo hi' w w') (hB : hi' ≤ B) : PartF w' B hi n T M := by
  obtain ⟨C, f, h1, h2, h3, h4⟩ := h
  refine ⟨C, f, hk.atTopX h1 hB, h2, fun j hj => ?_, h4⟩
  obtain ⟨e1, e2, e3, e4⟩ := h3 j hj
  refine ⟨e1, e2, e3, e4.1, ?_⟩
  rcases e4.2 with h0 | ⟨e, hh'⟩
  · exact .inl h0
  · exact .inr ⟨e, hk.atTopX hh' (by omega)⟩
end Go.Proofs.Ytoijlepjnpdlkaa


/- ChainFlows of both, told alike; what its law keeps in mind; markFlow and heldFlow of a flow that append made. -/
namespace Go.Proofs.Ytoijlepjnpdlkaa
open Go.RowKit
set_option maxRecDepth 10000

set_option maxHeartbeats 400000 in
theorem szNetL_any (p : Int) (a : Option Addr) (n c : Nat) (L : List (List Int)) (left : Int) (w : World) (h : Lists w a (3 * n) L) (hn : n ≤ maxLen) (h0 : 0 ≤ left) (h1 : left ≤ 1048576) :
    Calls Try.prog 11 #[.agg #[.int .i64 p, .slice a n c], .int .i64 left] w fun e w' => e = .returned (.int .i64 (leftOf left (sizeN n L))) ∧ Below w.heap.size w w' := by
  have HA := hide (below_al w (.cells #[.int .i64 p, .slice a n c] 24))
  have HL := hide (h.below HA.out)
  clear h
  go_enter Try.func11, Try.ntmps11
  go_wp2_with fail
  refine (szTris_any _ _ _ L _ _ HL.out hn h0 h1).mono ?_
  rintro e w1 ⟨rfl, hb⟩
  have HB := hide (HA.out.trans (hb.mono HA.out.size))
  clear hb
  by_cases g : leftOf left (sizeN n L) < 0
  · have HS := hide (leftOf_neg_add 0 g)
    rw [Nat.add_zero] at HS
    obtain ⟨l2, hl2'⟩ : ∃ l2, Hid (leftOf left (sizeN n L) = l2) := ⟨_, rfl⟩
    rw [hl2'.out] at g ⊢
    go_wp2_with fail
    go_ret
    exact ⟨ret_int HS.out.symm, HB.out⟩
  obtain ⟨l0, hl0⟩ : ∃ l0, Hid (leftOf left (sizeN n L) = l0) := ⟨_, rfl⟩
  rw [hl0.out] at g ⊢
  go_wp2_with fail
  go_ret
  exact ⟨ret_int hl0.out.symm, HB.out⟩

set_option maxHeartbeats 400000 in
theorem szFlowL_any (p f t : Int) (a : Option Addr) (n c : Nat) (L : List (List Int)) (left : Int) (w : World) (h : Lists w a (3 * n) L) (hn : n ≤ maxLen) (h0 : 0 ≤ left) (h1 : left ≤ 1048576) :
    Calls Try.prog 4 #[.agg #[.int .i64 p, .slice a n c, .int .i64 f, .int .i64 t], .int .i64 left] w fun e w' => e = .returned (.int .i64 (leftOf left (sizeN n L))) ∧ Below w.heap.size w w' := by
  have HA := hide (below_al w (.cells #[.int .i64 p, .slice a n c, .int .i64 f, .int .i64 t] 26))
  have HL := hide (h.below HA.out)
  clear h
  go_enter Try.func4, Try.ntmps4
  go_wp2_with fail
  refine (szNetL_any _ _ _ _ L _ _ HL.out hn h0 h1).mono ?_
  rintro e w1 ⟨rfl, hb⟩
  have HB := hide (HA.out.trans (hb.mono HA.out.size))
  clear hb
  by_cases g : leftOf left (sizeN n L) < 0
  · have HS := hide (leftOf_neg_add 0 g)
    rw [Nat.add_zero] at HS
    obtain ⟨l2, hl2'⟩ : ∃ l2, Hid (leftOf left (sizeN n L) = l2) := ⟨_, rfl⟩
    rw [hl2'.out] at g ⊢
    go_wp2_with fail
    go_ret
    exact ⟨ret_int HS.out.symm, HB.out⟩
  obtain ⟨l0, hl0⟩ : ∃ l0, Hid (leftOf left (sizeN n L) = l0) := ⟨_, rfl⟩
  rw [hl0.out] at g ⊢
  go_wp2_with fail
  go_ret
  exact ⟨ret_int hl0.out.symm, HB.out⟩

set_option maxHeartbeats 400000 in
theorem markFlowG_any (p f t : Int) (a : Option Addr) (B lo hi n c k0 : Nat) (M : Nat → List Int) (w : World) (h : NetG w a B lo hi n M) (hlo : lo ≤ w.heap.size) (hs : cntF M (3 * n) ≤ 1048576) (hn : n ≤ 1048576) (hk0 : k0 ≤ 2097152) :
    Calls Try.prog 9 #[.agg #[.int .i64 p, .slice a n c, .int .i64 f, .int .i64 t], .int .i64 (k0 : Int)] w fun e w' => e = .returned (.int .i64 ((k0 + cntF M (3 * n) : Nat) : Int)) ∧ NetG w' a B lo hi n (markedF k0 M (3 * n)) ∧ Keeps lo hi w w' := by
  have hA := below_al w (.cells #[.int .i64 p, .slice a n c, .int .i64 f, .int .i64 t] 32)
  have HT := hide (markNetG_any p a B lo hi n c k0 M _ (h.growX hA) (by have := hA.size; omega) hs hn hk0)
  have HK := hide (Keeps.of_below (lo := lo) (hi := hi) hA hlo)
  obtain ⟨t0, ht0⟩ : ∃ t, Hid (k0 + cntF M (3 * n) = t) := ⟨_, rfl⟩
  rw [ht0.out] at HT ⊢
  clear h hA
  go_enter Try.func9, Try.ntmps9
  go_wp2_with fail
  refine HT.out.mono ?_
  rintro e w3 ⟨rfl, p3, kp3⟩
  have HP3 := hide p3
  have HK3 := hide (HK.out.trans kp3)
  clear p3 kp3 HT HK
  go_wp2_with fail
  go_ret
  exact ⟨rfl, HP3.out, HK3.out⟩

set_option maxHeartbeats 400000 in
theorem heldFlowG_any (p f t : Int) (a : Option Addr) (B lo hi n c k0 : Nat) (M : Nat → List Int) (w : World) (h : NetG w a B lo hi n (markedF k0 M (3 * n))) (hs : cntF M (3 * n) ≤ 1048576) (hn : n ≤ 1048576) (hk0 : k0 ≤ 2097152) :
    Calls Try.prog 10 #[.agg #[.int .i64 p, .slice a n c, .int .i64 f, .int .i64 t], .int .i64 (k0 : Int)] w fun e w' => e = .returned (.int .i64 ((k0 + cntF M (3 * n) : Nat) : Int)) ∧ Below w.heap.size w w' := by
  have hA := below_al w (.cells #[.int .i64 p, .slice a n c, .int .i64 f, .int .i64 t] 32)
  have HT := hide (heldNet_any p a B lo hi n c k0 M _ (h.growX hA) hs hn hk0)
  have HA := hide hA
  obtain ⟨t0, ht0⟩ : ∃ t, Hid (k0 + cntF M (3 * n) = t) := ⟨_, rfl⟩
  rw [ht0.out] at HT ⊢
  have hpos : (0 : Int) ≤ (t0 : Int) := by omega
  clear h hA
  go_enter Try.func10, Try.ntmps10
  go_wp2_with fail
  refine HT.out.mono ?_
  rintro e w3 ⟨rfl, hb⟩
  have HB := hide (HA.out.trans (hb.mono HA.out.size))
  clear hb HT HA
  go_wp2_with fail
  go_ret
  exact ⟨rfl, HB.out⟩

/-- w: the world ahead of the law; u: behind the specification's answer; v: now. -/
structure Sc (w u v : World) (Cp Cq Cx Cy : Array Value) (n B hi bx m D hj bz : Nat) (M K : Nat → List Int) (Cg : Array Value) (ag : Option Addr) (Bg lo hig N bg : Nat) (Mg : Nat → List Int) : Prop where
  old : Below w.heap.size w v
  mid : Below u.heap.size u v
  par : v.heap[w.heap.size]? = some (.cells Cp 26 (0, 0))
  qar : v.heap[w.heap.size + 1]? = some (.cells Cq 26 (0, 0))
  x0 : v.heap[bx]? = some (.cells Cx 32 (0, 0))
  y0 : v.heap[bz]? = some (.cells Cy 32 (0, 0))
  net : PartF v B hi (3 * n) 44 M
  net2 : PartF v D hj (3 * m) 44 K
  g0 : v.heap[bg]? = some (.cells Cg 32 (0, 0))
  gn : NetG v ag Bg lo hig N Mg
  lay : w.heap.size + 2 ≤ B ∧ u.heap.size ≤ B ∧ hi ≤ bx ∧ bx < D ∧ hj ≤ bz ∧ bz < lo ∧ bz < Bg ∧ hig ≤ bg ∧ B < bx ∧ D < bz ∧ bz < bg

section
variable {w u v v' : World} {Cp Cq Cx Cy : Array Value} {n B hi bx m D hj bz : Nat} {M M' K K' : Nat → List Int} {Cg : Array Value} {ag : Option Addr} {Bg lo hig N bg : Nat} {Mg Mg' : Nat → List Int}

theorem Sc.grow (h : Sc w u v Cp Cq Cx Cy n B hi bx m D hj bz M K Cg ag Bg lo hig N bg Mg) (hb : Below v.heap.size v v') : Sc w u v' Cp Cq Cx Cy n B hi bx m D hj bz M K Cg ag Bg lo hig N bg Mg :=
  ⟨h.old.trans (hb.mono h.old.size), h.mid.trans (hb.mono h.mid.size), keep h.par hb, keep h.qar hb, keep h.x0 hb, keep h.y0 hb, h.net.grow hb, h.net2.grow hb, keep h.g0 hb, h.gn.growX hb, h.lay⟩

theorem Sc.markN (h : Sc w u v Cp Cq Cx Cy n B hi bx m D hj bz M K Cg ag Bg lo hig N bg Mg) (hm : PartF v' B hi (3 * n) 44 M') (hk : Keeps (B + 1) hi v v') : Sc w u v' Cp Cq Cx Cy n B hi bx m D hj bz M' K Cg ag Bg lo hig N bg Mg := by
  obtain ⟨l1, l2, l3, l4, l5, l6, l7, l8, l9, l10, l11⟩ := h.lay
  have hgn : NetG v' ag Bg lo hig N Mg := h.gn.keepsX hk (by omega) (by omega)
  have hg0 : v'.heap[bg]? = some (.cells Cg 32 (0, 0)) := hk.atTopX h.g0 (by omega)
  exact ⟨h.old.trans (hk.bel.mono (by omega)), h.mid.trans (hk.bel.mono (by omega)), hk.atLowX h.par (by omega), hk.atLowX h.qar (by omega), hk.atTopX h.x0 l3, hk.atTopX h.y0 (by omega), hm, h.net2.overX hk (by omega), hg0, hgn, h.lay⟩

theorem Sc.markM (h : Sc w u v Cp Cq Cx Cy n B hi bx m D hj bz M K Cg ag Bg lo hig N bg Mg) (hm : PartF v' D hj (3 * m) 44 K') (hk : Keeps (D + 1) hj v v') : Sc w u v' Cp Cq Cx Cy n B hi bx m D hj bz M K' Cg ag Bg lo hig N bg Mg := by
  obtain ⟨l1, l2, l3, l4, l5, l6, l7, l8, l9, l10, l11⟩ := h.lay
  have hgn : NetG v' ag Bg lo hig N Mg := h.gn.keepsX hk (by omega) (by omega)
  have hg0 : v'.heap[bg]? = some (.cells Cg 32 (0, 0)) := hk.atTopX h.g0 (by omega)
  exact ⟨h.old.trans (hk.bel.mono (by omega)), h.mid.trans (hk.bel.mono (by omega)), hk.atLowX h.par (by omega), hk.atLowX h.qar (by omega), hk.atLowX h.x0 (by omega), hk.atTopX h.y0 (by omega), h.net.lowX hk.bel (by omega) (by omega), hm, hg0, hgn, h.lay⟩

theorem Sc.markG (h : Sc w u v Cp Cq Cx Cy n B hi bx m D hj bz M K Cg ag Bg lo hig N bg Mg) (hm : NetG v' ag Bg lo hig N Mg') (hk : Keeps lo hig v v') : Sc w u v' Cp Cq Cx Cy n B hi bx m D hj bz M K Cg ag Bg lo hig N bg Mg' := by
  obtain ⟨l1, l2, l3, l4, l5, l6, l7, l8, l9, l10, l11⟩ := h.lay
  exact ⟨h.old.trans (hk.bel.mono (by omega)), h.mid.trans (hk.bel.mono (by omega)), hk.atLowX h.par (by omega), hk.atLowX h.qar (by omega), hk.atLowX h.x0 (by omega), hk.atLowX h.y0 (by omega), h.net.lowX hk.bel (by omega) (by omega), h.net2.lowX hk.bel (by omega) (by omega), hk.atTopX h.g0 l8, hm, h.lay⟩
end

theorem held8 {W : World} {b d : Nat} {x0 x1 x2 x3 y0 y1 y2 y3 : Value} {T : TypeId} (h1 : W.heap[b]? = some (.cells #[x0, x1, x2, x3] T (0, 0))) (h2 : W.heap[d]? = some (.cells #[y0, y1, y2, y3] T (0, 0))) :
    W.cell? ⟨b, 0, none⟩ = some x0 ∧ W.cell? ⟨b, 1, none⟩ = some x1 ∧ W.cell? ⟨b, 2, none⟩ = some x2 ∧ W.cell? ⟨b, 3, none⟩ = some x3 ∧ W.cell? ⟨d, 0, none⟩ = some y0 ∧ W.cell? ⟨d, 1, none⟩ = some y1 ∧ W.cell? ⟨d, 2, none⟩ = some y2 ∧ W.cell? ⟨d, 3, none⟩ = some y3 :=
  ⟨cell_of_row W b 0 _ _ _ h1, cell_of_row W b 1 _ _ _ h1, cell_of_row W b 2 _ _ _ h1, cell_of_row W b 3 _ _ _ h1, cell_of_row W d 0 _ _ _ h2, cell_of_row W d 1 _ _ _ h2, cell_of_row W d 2 _ _ _ h2, cell_of_row W d 3 _ _ _ h2⟩

/-- A row of four cells that may be written. -/
theorem open4 {v : World} {b : Nat} {x0 x1 x2 x3 : Value} {T : TypeId} (h : v.heap[b]? = some (.cells #[x0, x1, x2, x3] T (0, 0))) :
    (v.cell? ⟨b, 0, none⟩ = some x0 ∧ v.cell? ⟨b, 1, none⟩ = some x1 ∧ v.cell? ⟨b, 2, none⟩ = some x2 ∧ v.cell? ⟨b, 3, none⟩ = some x3) ∧ v.frozen? ⟨b, 0, none⟩ = false ∧ v.frozen? ⟨b, 1, none⟩ = false ∧ v.frozen? ⟨b, 2, none⟩ = false ∧ v.frozen? ⟨b, 3, none⟩ = false :=
  ⟨cells4c h, frozen_of_row v b 0 _ _ h, frozen_of_row v b 1 _ _ h, frozen_of_row v b 2 _ _ h, frozen_of_row v b 3 _ _ h⟩

theorem set4 {v : World} {b : Nat} {x0 x1 x2 x3 : Value} {T : TypeId} (h : v.heap[b]? = some (.cells #[x0, x1, x2, x3] T (0, 0))) (y0 y1 y2 y3 : Value) :
    ((((v.setCell ⟨b, 0, none⟩ y0).setCell ⟨b, 1, none⟩ y1).setCell ⟨b, 2, none⟩ y2).setCell ⟨b, 3, none⟩ y3).heap[b]? = some (.cells #[y0, y1, y2, y3] T (0, 0)) := by
  have h1 := heap_setCell_same v b 0 _ _ y0 h
  have h2 := heap_setCell_same _ b 1 _ _ y1 h1
  have h3 := heap_setCell_same _ b 2 _ _ y2 h2
  rw [heap_setCell_same _ b 3 _ _ y3 h3]; rfl

theorem set4_far {v : World} {b q : Nat} (hq : q ≠ b) (y0 y1 y2 y3 : Value) :
    ((((v.setCell ⟨b, 0, none⟩ y0).setCell ⟨b, 1, none⟩ y1).setCell ⟨b, 2, none⟩ y2).setCell ⟨b, 3, none⟩ y3).heap[q]? = v.heap[q]? := by
  rw [Below.heap_setCell _ _ _ _ hq, Below.heap_setCell _ _ _ _ hq, Below.heap_setCell _ _ _ _ hq, Below.heap_setCell _ _ _ _ hq]

theorem set4_below {w v : World} {B b : Nat} (h : Below B w v) (hb : B ≤ b) (y0 y1 y2 y3 : Value) :
    Below B w ((((v.setCell ⟨b, 0, none⟩ y0).setCell ⟨b, 1, none⟩ y1).setCell ⟨b, 2, none⟩ y2).setCell ⟨b, 3, none⟩ y3) :=
  (((h.setCell (p := ⟨b, 0, none⟩) hb y0).setCell (p := ⟨b, 1, none⟩) hb y1).setCell (p := ⟨b, 2, none⟩) hb y2).setCell (p := ⟨b, 3, none⟩) hb y3

theorem NetG.set4 {w : World} {a : Option Addr} {B lo hi n : Nat} {M : Nat → List Int} (h : NetG w a B lo hi n M) {b : Nat} (h1 : b < lo) (h2 : b < B) (y0 y1 y2 y3 : Value) : NetG ((((w.setCell ⟨b, 0, none⟩ y0).setCell ⟨b, 1, none⟩ y1).setCell ⟨b, 2, none⟩ y2).setCell ⟨b, 3, none⟩ y3) a B lo hi n M :=
  h.keepsX (lo' := b) (hi' := b + 1) ⟨set4_below (Below.refl _ _) (Nat.le_refl _) _ _ _ _, fun k hk _ => set4_far (by omega) _ _ _ _⟩ h1 h2

theorem triOr_lists {w : World} {lo n c : Nat} {a : Option Addr} {K : List (List Int)} (h : n = 0 ∨ TriX w lo (.slice a n c) n K) (hl : K.length = 3 * n) (hs : sizeN n K ≤ 1048576) : Lists w a (3 * n) K := by
  rcases h with h | h
  · subst h; exact ⟨hl, .inl rfl⟩
  · exact h.listsAt hs

theorem triOr_set4 {w : World} {lo n c : Nat} {a : Option Addr} {K : List (List Int)} (h : n = 0 ∨ TriX w lo (.slice a n c) n K) {b : Nat} (hb : b < lo) (y0 y1 y2 y3 : Value) : n = 0 ∨ TriX ((((w.setCell ⟨b, 0, none⟩ y0).setCell ⟨b, 1, none⟩ y1).setCell ⟨b, 2, none⟩ y2).setCell ⟨b, 3, none⟩ y3) lo (.slice a n c) n K := by
  rcases h with h | h
  · exact .inl h
  · exact .inr ((((h.low hb 0 _).low hb 1 _).low hb 2 _).low hb 3 _)

/-- Both answer the same flow, good or the zero one. -/
theorem chain_pack (pa sa ta pb sb tb : Int) (na nb : Nat) (La Lb : List (List Int)) (hsa : sizeN na La ≤ 1048576) (hsb : sizeN nb Lb ≤ 1048576) (hla : La.length = 3 * na) (hlb : Lb.length = 3 * nb) : ∃ (g : Bool) (P S T : Int) (N : Nat) (K : List (List Int)), Hid (K.length = 3 * N ∧ sizeN N K ≤ 1048576 ∧ cntF (fun j => K.getD j []) (3 * N) ≤ 1048576) ∧ N ≤ 1048576 ∧
    Hid (∀ (aa ab : Option Addr) (ca cb : Nat) (w : World), Lists w aa (3 * na) La → Lists w ab (3 * nb) Lb → Calls Try.prog 5 #[.agg #[.int .i64 pa, .slice aa na ca, .int .i64 sa, .int .i64 ta], .agg #[.int .i64 pb, .slice ab nb cb, .int .i64 sb, .int .i64 tb]] w fun e w' => ∃ a c, e = .returned (.tuple #[.agg #[.int .i64 P, .slice a N c, .int .i64 S, .int .i64 T], .bool g]) ∧ (N = 0 ∨ TriX w' w.heap.size (.slice a N c) N K) ∧ Below w.heap.size w w') ∧
    Hid (∀ (aa ab : Option Addr) (ca cb : Nat) (w : World), Lists w aa (3 * na) La → Lists w ab (3 * nb) Lb → Calls Try.prog 7 #[.agg #[.int .i64 pa, .slice aa na ca, .int .i64 sa, .int .i64 ta], .agg #[.int .i64 pb, .slice ab nb cb, .int .i64 sb, .int .i64 tb]] w fun e w' => ∃ a B lo hi c, e = .returned (.tuple #[.agg #[.int .i64 P, .slice a N c, .int .i64 S, .int .i64 T], .bool g]) ∧ NetG w' a B lo hi N (fun j => K.getD j []) ∧ w.heap.size ≤ B ∧ w.heap.size ≤ lo ∧ hi ≤ w'.heap.size ∧ lo ≤ w'.heap.size ∧ Below w.heap.size w w') := by
  cases hg : chOk pa sa ta pb sb tb na nb La Lb
  · refine ⟨false, 0, 0, 0, 0, [], ⟨rfl, by decide, by decide⟩, by decide, fun aa ab ca cb w h1 h2 => ?_, fun aa ab ca cb w h1 h2 => ?_⟩
    · refine (chainS_any pa sa ta pb sb tb aa ab na ca nb cb La Lb w h1 h2 hsa hsb).mono ?_
      rw [hg]
      rintro e w' ⟨a', c', rfl, _, hb⟩
      exact ⟨a', c', rfl, .inl rfl, hb⟩
    · refine (chainI_any pa sa ta pb sb tb aa ab na ca nb cb La Lb w h1 h2 hsa hsb).mono ?_
      rw [hg]
      rintro e w' ⟨a', c', rfl, _, hb⟩
      exact ⟨a', w.heap.size, w.heap.size, w.heap.size, c', rfl, .inl rfl, Nat.le_refl _, Nat.le_refl _, hb.size, hb.size, hb⟩
  · have hK : (chainL pa ta sb La Lb).length = 3 * (na + nb) ∧ netOk (pa + pb - 1) (na + nb) (chainL pa ta sb La Lb) = true := by
      unfold chOk at hg
      rw [Bool.and_eq_true, Bool.and_eq_true, Bool.and_eq_true] at hg
      obtain ⟨⟨⟨h1, h2⟩, h3⟩, h4⟩ := hg
      have hc : Chn pa pb sa ta sb tb na nb La Lb := ⟨h1, h2, hla, hlb, of_decide_eq_true h3, of_decide_eq_true h4⟩
      exact ⟨by simp [chainL, hla, hlb]; omega, hc.net⟩
    have hn24 := (netOk_parts hK.2).2.1
    have hz := netSizeX hK.2 hK.1
    refine ⟨true, pa + pb - 1, sa, mvP pa ta sb tb, na + nb, chainL pa ta sb La Lb, ⟨hK.1, by omega, by rw [cntF_all hK.1]; unfold sizeN at hz; omega⟩, by omega, fun aa ab ca cb w h1 h2 => ?_, fun aa ab ca cb w h1 h2 => ?_⟩
    · refine (chainS_any pa sa ta pb sb tb aa ab na ca nb cb La Lb w h1 h2 hsa hsb).mono ?_
      rw [hg]
      rintro e w' ⟨a', c', rfl, h1, hb⟩
      exact ⟨a', c', rfl, .inr (h1 rfl), hb⟩
    · refine (chainI_any pa sa ta pb sb tb aa ab na ca nb cb La Lb w h1 h2 hsa hsb).mono ?_
      rw [hg]
      rintro e w' ⟨a', c', rfl, h1, hb⟩
      obtain ⟨a2, B, c2, he, hB, hng⟩ := (h1 rfl).netG
      obtain ⟨rfl, rfl⟩ : a2 = a' ∧ c2 = c' := by simp at he; exact ⟨he.1.symm, he.2.symm⟩
      rcases Nat.eq_zero_or_pos (na + nb) with h0 | h0
      · exact ⟨a2, w.heap.size, w.heap.size, w'.heap.size, c2, rfl, .inl h0, Nat.le_refl _, Nat.le_refl _, Nat.le_refl _, hb.size, hb⟩
      · exact ⟨a2, B, w.heap.size, w'.heap.size, c2, rfl, hng, by omega, Nat.le_refl _, Nat.le_refl _, hb.size, hb⟩
end Go.Proofs.Ytoijlepjnpdlkaa
