/- waysOf of the program, and what is asked of a step. -/
import Derived.Test.YtnknhjiofpjbbaaWa
import Derived.Test.YtnknhjiofpjbbaaWr
import Derived.Deep.RegionHeld3
namespace Go.Proofs.Ytnknhjiofpjbbaa
open Go.RowKit
set_option maxRecDepth 10000

def inL (L : List (List Int)) (k : Nat) : List Int := L.getD (3 * k) []
def outL (L : List (List Int)) (k : Nat) : List Int := L.getD (3 * k + 1) []

noncomputable def fthM (n : Nat) (L : List (List Int)) (s : Int) : Nat := rchM (inL L) (outL L) n s
noncomputable def bckM (n : Nat) (L : List (List Int)) (t : Int) : Nat := rchM (outL L) (inL L) n t

theorem netOk_parts {p : Int} {n : Nat} {L : List (List Int)} (h : netOk p n L = true) : (1 ≤ p ∧ p ≤ 16) ∧ n ≤ 24 ∧ ∀ k, k < n → tri3Ok p (L.getD (3 * k) []) (L.getD (3 * k + 1) []) (L.getD (3 * k + 2) []) = true := by
  unfold netOk at h
  simp only [Bool.and_eq_true] at h
  refine ⟨?_, ?_, fun k hk => ?_⟩
  · have := h.1.1; simp [inB] at this; omega
  · simpa using h.1.2
  · have := List.all_eq_true.mp h.2 k (by simpa using hk)
    rwa [triOk_eq] at this

theorem tri3_rise {p : Int} {x0 x1 x2 : List Int} (h : tri3Ok p x0 x1 x2 = true) : riseB x0 0 (p - 1) = true ∧ riseB x1 0 (p - 1) = true ∧ riseB x2 0 (p - 1) = true := by
  unfold tri3Ok at h
  simp only [Bool.and_eq_true] at h
  exact ⟨h.1.1.2, h.1.2, h.2⟩

theorem netOk_mem {p : Int} {n : Nat} {L : List (List Int)} (h : netOk p n L = true) {k : Nat} (hk : k < n) :
    (∀ x ∈ inL L k, 0 ≤ x ∧ x < p) ∧ (∀ x ∈ outL L k, 0 ≤ x ∧ x < p) ∧ (∀ x ∈ L.getD (3 * k + 2) [], 0 ≤ x ∧ x < p) := by
  obtain ⟨_, _, h3⟩ := netOk_parts h
  obtain ⟨r0, r1, r2⟩ := tri3_rise (h3 k hk)
  refine ⟨fun x hx => ?_, fun x hx => ?_, fun x hx => ?_⟩
  · have := riseB_mem r0 x hx; omega
  · have := riseB_mem r1 x hx; omega
  · have := riseB_mem r2 x hx; omega

theorem small_in {p : Int} {n : Nat} {L : List (List Int)} (h : netOk p n L = true) : Small (inL L) n := fun k hk x hx => by
  have := (netOk_mem h hk).1 x hx
  have := (netOk_parts h).1
  omega
theorem small_out {p : Int} {n : Nat} {L : List (List Int)} (h : netOk p n L = true) : Small (outL L) n := fun k hk x hx => by
  have := (netOk_mem h hk).2.1 x hx
  have := (netOk_parts h).1
  omega

theorem ret_b {a b : Bool} (h : a = b) : Ending.returned (.bool a) = .returned (.bool b) := by rw [h]

theorem lacksPlace_any (p q : Int) (a : Option Addr) (n c : Nat) (w : World) :
    Calls Try.prog 69 #[.agg #[.int .i64 p, .slice a n c], .int .i64 q] w fun e w' => e = .returned (.bool (!inB q 0 (p - 1))) ∧ Below w.heap.size w w' := by
  have HX : Hid (∀ b : Bool, (b = true ↔ q < 0 ∨ p ≤ q) → b = !inB q 0 (p - 1)) := by
    intro b hb
    unfold inB
    cases b
    · have : ¬ (q < 0 ∨ p ≤ q) := fun h => by simpa using hb.mpr h
      simp; omega
    · have := hb.mp rfl
      simp; omega
  by_cases h0 : q < 0
  · go_enter Try.func69, Try.ntmps69
    go_wp2_with fail
    go_ret
    exact ⟨ret_b (HX.out true (by simp [h0])), below_al _ _⟩
  by_cases h1 : p ≤ q
  · go_enter Try.func69, Try.ntmps69
    go_wp2_with fail
    go_ret
    exact ⟨ret_b (HX.out true (by simp [h1])), below_al _ _⟩
  · go_enter Try.func69, Try.ntmps69
    go_wp2_with fail
    go_ret
    exact ⟨ret_b (HX.out false (by simp; omega)), below_al _ _⟩

/-- Whether a net is good and two numbers are places of it. -/
def wayOk (p : Int) (n : Nat) (L : List (List Int)) (s t : Int) : Bool := netOk p n L && inB s 0 (p - 1) && inB t 0 (p - 1)

/-- How waysOf ends. -/
def WayEnd (g : Bool) (p : Int) (n : Nat) (L : List (List Int)) (s t : Int) (w : World) (e : Ending) (w' : World) : Prop :=
  ∃ p' a m c F K, e = .returned (.tuple #[.agg #[.int .i64 p', .slice a m c, .int .u16 ((F : Nat) : Int), .int .u16 ((K : Nat) : Int)], .bool g]) ∧
    Hid (g = true → p' = p ∧ m = n ∧ c = n ∧ F = fthM n L s ∧ K = bckM n L t ∧ ∃ B, a = some ⟨B, 0, none⟩ ∧ w.heap.size ≤ B ∧ PartS w' B (3 * n) (3 * n) L) ∧ Below w.heap.size w w'

theorem wayEnd_no {p : Int} {n : Nat} {L : List (List Int)} {s t : Int} {w w' : World} (h : wayOk p n L s t = false) (hb : Below w.heap.size w w') :
    WayEnd (wayOk p n L s t) p n L s t w (.returned (.tuple #[.agg #[.int .i64 0, .slice none 0 0, .int .u16 0, .int .u16 0], .bool false])) w' :=
  ⟨0, none, 0, 0, 0, 0, by rw [h]; rfl, by rw [h]; intro e; simp at e, hb⟩

theorem cells4 {w : World} {b : Nat} {v0 v1 v2 v3 : Value} {T : TypeId} (h : w.heap[b]? = some (.cells #[v0, v1, v2, v3] T (0, 0))) :
    (w.cell? ⟨b, 0, none⟩ = some v0 ∧ w.cell? ⟨b, 1, none⟩ = some v1 ∧ w.cell? ⟨b, 2, none⟩ = some v2 ∧ w.cell? ⟨b, 3, none⟩ = some v3) ∧
    (w.frozen? ⟨b, 0, none⟩ = false ∧ w.frozen? ⟨b, 1, none⟩ = false ∧ w.frozen? ⟨b, 2, none⟩ = false ∧ w.frozen? ⟨b, 3, none⟩ = false) :=
  ⟨⟨cell_of_row w b 0 _ _ _ h, cell_of_row w b 1 _ _ _ h, cell_of_row w b 2 _ _ _ h, cell_of_row w b 3 _ _ _ h⟩,
   ⟨frozen_of_row w b 0 _ _ h, frozen_of_row w b 1 _ _ h, frozen_of_row w b 2 _ _ h, frozen_of_row w b 3 _ _ h⟩⟩

theorem below_set4 {B : Nat} {a w : World} (h : Below B a w) {g : Nat} (hg : B ≤ g) (v0 v1 v2 v3 : Value) :
    Below B a ((((w.setCell ⟨g, 0, none⟩ v0).setCell ⟨g, 1, none⟩ v1).setCell ⟨g, 2, none⟩ v2).setCell ⟨g, 3, none⟩ v3) :=
  (((h.setCell (by simpa using hg) _).setCell (by simpa using hg) _).setCell (by simpa using hg) _).setCell (by simpa using hg) _

theorem PartS.set4 {w : World} {B n k g : Nat} {L : List (List Int)} (h : PartS w B n k L) (hg : B ≠ g) (v0 v1 v2 v3 : Value) : PartS ((((w.setCell ⟨g, 0, none⟩ v0).setCell ⟨g, 1, none⟩ v1).setCell ⟨g, 2, none⟩ v2).setCell ⟨g, 3, none⟩ v3) B n k L :=
  (((h.set_other hg 0 v0).set_other hg 1 v1).set_other hg 2 v2).set_other hg 3 v3

theorem Try.size76 : (Try.prog.info? 76).map (·.size) = some 4 := by kernel_rfl

theorem PartS.setRowW {w : World} {B n k g : Nat} {L : List (List Int)} (h : PartS w B n k L) (hg : B ≠ g) (D : Array Value) : PartS (w.setRow g D) B n k L := by
  obtain ⟨C, h1, h2, h3⟩ := h
  exact ⟨C, (setRow_otherW w hg D).trans h1, h2, h3⟩

theorem keep2 {W W' : World} {a1 a2 : Addr} {v1 v2 : Value} (hb : Below W.heap.size W W') (h : W.cell? a1 = some v1 ∧ W.cell? a2 = some v2) : W'.cell? a1 = some v1 ∧ W'.cell? a2 = some v2 :=
  ⟨(hb.cell (World.block_lt_of_cell? _ _ h.1)).trans h.1, (hb.cell (World.block_lt_of_cell? _ _ h.2)).trans h.2⟩

theorem keep2_set4 {W : World} {g b x1 x2 : Nat} {v1 v2 u0 u1 u2 u3 : Value} (hg : b ≠ g) (h : W.cell? ⟨b, x1, none⟩ = some v1 ∧ W.cell? ⟨b, x2, none⟩ = some v2) :
    ((((W.setCell ⟨g, 0, none⟩ u0).setCell ⟨g, 1, none⟩ u1).setCell ⟨g, 2, none⟩ u2).setCell ⟨g, 3, none⟩ u3).cell? ⟨b, x1, none⟩ = some v1 ∧ ((((W.setCell ⟨g, 0, none⟩ u0).setCell ⟨g, 1, none⟩ u1).setCell ⟨g, 2, none⟩ u2).setCell ⟨g, 3, none⟩ u3).cell? ⟨b, x2, none⟩ = some v2 := by
  have far : ∀ x, ((((W.setCell ⟨g, 0, none⟩ u0).setCell ⟨g, 1, none⟩ u1).setCell ⟨g, 2, none⟩ u2).setCell ⟨g, 3, none⟩ u3).cell? ⟨b, x, none⟩ = W.cell? ⟨b, x, none⟩ := fun x => by
    rw [World.cell?_setCell_far _ _ _ _ (fun e => hg e.symm), World.cell?_setCell_far _ _ _ _ (fun e => hg e.symm), World.cell?_setCell_far _ _ _ _ (fun e => hg e.symm), World.cell?_setCell_far _ _ _ _ (fun e => hg e.symm)]
  exact ⟨(far _).trans h.1, (far _).trans h.2⟩

set_option maxHeartbeats 4000000 in
theorem waysOf_any (p s t : Int) (a : Option Addr) (n c : Nat) (L : List (List Int)) (w : World) (h : Lists w a (3 * n) L) (hs : sizeN n L ≤ 1048576) :
    Calls Try.prog 43 #[.agg #[.int .i64 p, .slice a n c], .int .i64 s, .int .i64 t] w fun e w' => WayEnd (wayOk p n L s t) p n L s t w e w' := by
  have HT := hide (netSteps_any p a n c L ((w.alloc (.cells #[.int .i64 p, .slice a n c] 31)).alloc (.cells #[.int .i64 0, .slice none 0 0, .int .u16 0, .int .u16 0] 76)) (h.below (below_two _ _ _)) hs)
  have HA := hide (below_two w (.cells #[.int .i64 p, .slice a n c] 31) (.cells #[.int .i64 0, .slice none 0 0, .int .u16 0, .int .u16 0] 76))
  have HR0 : Hid (((w.alloc (.cells #[.int .i64 p, .slice a n c] 31)).alloc (.cells #[.int .i64 0, .slice none 0 0, .int .u16 0, .int .u16 0] 76)).heap[w.heap.size + 1]? = some (.cells #[.int .i64 0, .slice none 0 0, .int .u16 0, .int .u16 0] 76 (0, 0))) := by
    have := heap_alloc_new (w.alloc (.cells #[.int .i64 p, .slice a n c] 31)) (.cells #[.int .i64 0, .slice none 0 0, .int .u16 0, .int .u16 0] 76)
    rw [show (w.alloc (.cells #[.int .i64 p, .slice a n c] 31)).heap.size = w.heap.size + 1 by simp] at this
    exact this
  clear h
  by_cases hg : netOk p n L = true
  rotate_left
  · have hg' : netOk p n L = false := by simpa using hg
    have HN := hide (show wayOk p n L s t = false by unfold wayOk; rw [hg']; rfl)
    rw [hg'] at HT
    clear hg hg'
    go_enter Try.func43, Try.ntmps43
    go_wp2_with fail
    refine HT.out.mono ?_
    rintro e w2 ⟨p', a', m, c', rfl, hx, hb⟩
    have HB2 := hide (HA.out.trans (hb.mono HA.out.size))
    have hR := keep HR0.out hb
    obtain ⟨⟨hr0, hr1, hr2, hr3⟩, hf0, hf1, hf2, hf3⟩ := cells4 hR
    have hlr : w.heap.size + 1 < w2.heap.size := (Array.getElem?_eq_some_iff.mp hR).1
    clear hb HT hx HA HR0 hR
    go_wp2_with fail
    refine bodyPost_ret (v := .tuple #[.agg #[.int .i64 0, .slice none 0 0, .int .u16 0, .int .u16 0], .bool false]) (by simp [results, Try.results43, go_sem, hr0, hr1, hr2, hr3, hlr]) rfl ?_
    exact wayEnd_no HN.out ((below_set4 HB2.out (by simp) _ _ _ _).alloc (by have := HB2.out.size; simp [World.setCell]; omega) _)
  have HG := hide hg
  have HPP := hide (netOk_parts hg)
  rw [hg] at HT
  clear hg
  go_enter Try.func43, Try.ntmps43
  go_wp2_with fail
  refine HT.out.mono ?_
  rintro e w2 ⟨p', a', m, c', rfl, hx, hb⟩
  obtain ⟨e1, e2, e3, B, rfl, hBs, hps⟩ := hx.out rfl
  subst e1 e2 e3
  have hA := below_al w2 (.cells #[.int .i64 p', .slice (some ⟨B, 0, none⟩) c' c'] 60)
  have HB2 := hide (HA.out.trans ((hb.trans (hA.mono hb.size)).mono HA.out.size))
  have HR2 := hide (keep (keep HR0.out hb) hA)
  have HPS := hide (hps.grow hA)
  have HV2 := hide (heap_alloc_new w2 (.cells #[.int .i64 p', .slice (some ⟨B, 0, none⟩) c' c'] 60))
  have HBs := hide (show w.heap.size + 1 + 1 ≤ B by simpa using hBs)
  have HW2 := hide (show w.heap.size + 1 < w2.heap.size from (Array.getElem?_eq_some_iff.mp (keep HR0.out hb)).1)
  clear hx hb hBs hps hA HT HA HR0
  go_wp2_with fail
  refine (lacksPlace_any _ _ _ _ _ _).mono ?_
  rintro e w3 ⟨rfl, hb3⟩
  have HB3 := hide (HB2.out.trans (hb3.mono HB2.out.size))
  have HR3 := hide (keep HR2.out hb3)
  have HV3 := hide (keep HV2.out hb3)
  have HPS3 := hide (HPS.out.grow hb3)
  clear hb3 HB2 HR2 HV2 HPS
  by_cases hq : inB s 0 (p' - 1) = true
  rotate_left
  · have hq' : inB s 0 (p' - 1) = false := by simpa using hq
    have HN := hide (show wayOk p' c' L s t = false by unfold wayOk; rw [hq']; simp)
    rw [hq']
    obtain ⟨⟨hr0, hr1, hr2, hr3⟩, hf0, hf1, hf2, hf3⟩ := cells4 HR3.out
    clear hq hq'
    go_wp2_with fail
    refine bodyPost_ret (v := .tuple #[.agg #[.int .i64 0, .slice none 0 0, .int .u16 0, .int .u16 0], .bool false]) (by simp [results, Try.results43, go_sem, hr0, hr1, hr2, hr3]) rfl ?_
    exact wayEnd_no HN.out (below_set4 HB3.out (by simp) _ _ _ _)
  have HQ := hide hq
  rw [hq]
  obtain ⟨hv0, hv1⟩ := cells2 HV3.out
  clear hq
  go_wp2_with fail
  refine (lacksPlace_any _ _ _ _ _ _).mono ?_
  rintro e w4 ⟨rfl, hb3⟩
  have HB4 := hide (HB3.out.trans (hb3.mono HB3.out.size))
  have HR4 := hide (keep HR3.out hb3)
  have HV4 := hide (keep HV3.out hb3)
  have HPS4 := hide (HPS3.out.grow hb3)
  clear hb3 HB3 HR3 HV3 HPS3 hv0 hv1
  by_cases hq : inB t 0 (p' - 1) = true
  rotate_left
  · have hq' : inB t 0 (p' - 1) = false := by simpa using hq
    have HN := hide (show wayOk p' c' L s t = false by unfold wayOk; rw [hq']; simp)
    rw [hq']
    obtain ⟨⟨hr0, hr1, hr2, hr3⟩, hf0, hf1, hf2, hf3⟩ := cells4 HR4.out
    clear hq hq'
    go_wp2_with fail
    refine bodyPost_ret (v := .tuple #[.agg #[.int .i64 0, .slice none 0 0, .int .u16 0, .int .u16 0], .bool false]) (by simp [results, Try.results43, go_sem, hr0, hr1, hr2, hr3]) rfl ?_
    exact wayEnd_no HN.out (below_set4 HB4.out (by simp) _ _ _ _)
  have HQ2 := hide hq
  rw [hq]
  clear hq
  have hp := HPP.out.1
  have hn24 := HPP.out.2.1
  have HWS := hide (fun W (hW : PartS W B (3 * c') (3 * c') L) => walkF_any (inL L) (outL L) p' s B c' L W hW hn24 (by have := HQ.out; simp [inB] at this; omega) (small_in HG.out) (small_out HG.out) (fun _ => rfl) (fun _ => rfl))
  have HWB := hide (fun W (hW : PartS W B (3 * c') (3 * c') L) => walkB_any (outL L) (inL L) p' t B c' L W hW hn24 (by have := HQ2.out; simp [inB] at this; omega) (small_out HG.out) (small_in HG.out) (fun _ => rfl) (fun _ => rfl))
  have HOK := hide (show wayOk p' c' L s t = true by unfold wayOk; rw [HG.out, HQ.out, HQ2.out]; rfl)
  clear hp
  go_wp2_with fail
  obtain ⟨V, hV⟩ : ∃ V, Hid (w2.heap.size = V) := ⟨_, rfl⟩
  rw [hV.out] at HV4 HW2 ⊢
  have HVF := hide (keep HV4.out (Below.refl _ w4).drew)
  have hVR : V ≠ w.heap.size + 1 := by have := HW2.out; omega
  obtain ⟨F, hF⟩ : ∃ F, Hid (rchM (inL L) (outL L) c' s = F) := ⟨_, rfl⟩
  obtain ⟨K, hK⟩ : ∃ F, Hid (rchM (outL L) (inL L) c' t = F) := ⟨_, rfl⟩
  rw [hF.out] at HWS
  rw [hK.out] at HWB
  have HPF : Hid (PartS w4.drew B (3 * c') (3 * c') L) := HPS4.out.grow (Below.refl _ w4).drew
  have HRF := hide (keep HR4.out (Below.refl _ w4).drew)
  have HBF : Hid (Below w.heap.size w w4.drew) := HB4.out.drew
  clear HV4 hV HPP HPS4 HR4 HB4
  refine wp_region_held_drew (S := fun W => W.cell? ⟨V, 0, none⟩ = some (.int .i64 p') ∧ W.cell? ⟨V, 1, none⟩ = some (.slice (some ⟨B, 0, none⟩) c' c')) (by kernel_rfl) ?_ (fun hHeld => ?_)
  · exact cells2 HVF.out
  refine take_yes (i := 0) (some 28) (.agg #[.int .i64 p', .slice (some ⟨B, 0, none⟩) c' c']) rfl rfl (by kernel_rfl) (by kernel_rfl) (by kernel_rfl) (fun _ _ _ h => h) (by rfl) ?_ (by assumption) ?_
  · intro W hSw
    obtain ⟨hz0, hz1⟩ := hSw
    go_simp
  simp only [Act.put, List.setIfInBounds_toArray, List.set_cons_zero, List.set_cons_succ]
  refine take_yes (i := 1) (some 29) (.agg #[.int .i64 p', .slice (some ⟨B, 0, none⟩) c' c']) rfl rfl (by kernel_rfl) (by kernel_rfl) (by kernel_rfl) (fun _ _ _ h => h) (by rfl) ?_ (by assumption) ?_
  · intro W hSw
    obtain ⟨hz0, hz1⟩ := hSw
    go_simp
  simp only [Act.put, List.setIfInBounds_toArray, List.set_cons_zero, List.set_cons_succ]
  refine take_yes (i := 2) (some 30) (.int .i64 s) rfl rfl (by kernel_rfl) (by kernel_rfl) (by kernel_rfl) (fun _ _ _ h => h) (by rfl) ?_ (by assumption) ?_
  · intro W hSw
    obtain ⟨hz0, hz1⟩ := hSw
    go_simp
  simp only [Act.put, List.setIfInBounds_toArray, List.set_cons_zero, List.set_cons_succ]
  refine take_yes (i := 4) (some 32) (.agg #[.int .i64 p', .slice (some ⟨B, 0, none⟩) c' c']) rfl rfl (by kernel_rfl) (by kernel_rfl) (by kernel_rfl) (fun _ _ _ h => h) (by rfl) ?_ (by assumption) ?_
  · intro W hSw
    obtain ⟨hz0, hz1⟩ := hSw
    go_simp
  simp only [Act.put, List.setIfInBounds_toArray, List.set_cons_zero, List.set_cons_succ]
  refine take_yes (i := 5) (some 33) (.int .i64 t) rfl rfl (by kernel_rfl) (by kernel_rfl) (by kernel_rfl) (fun _ _ _ h => h) (by rfl) ?_ (by assumption) ?_
  · intro W hSw
    obtain ⟨hz0, hz1⟩ := hSw
    go_simp
  simp only [Act.put, List.setIfInBounds_toArray, List.set_cons_zero, List.set_cons_succ]
  refine call_next (i := 3) (some 31) rfl rfl (by kernel_rfl) (by rfl) 70 _ _ _ rfl Try.func70 (by decide) rfl #[.agg #[.int .i64 p', .slice (some ⟨B, 0, none⟩) c' c'], .int .i64 s, .func (.func 71) #[] #[], .func (.func 72) #[] #[]] (mapw4 _ _ _ _ _ _ _ _ _ rfl rfl rfl rfl) _ (HWS.out _ HPF.out) ?_
  rintro e v1 ⟨rfl, hbl1⟩
  refine ⟨_, rfl, ?_, fun hHeld => ?_⟩
  · exact cells2 (keep HVF.out hbl1)
  simp only [Act.put, List.setIfInBounds_toArray, List.set_cons_zero, List.set_cons_succ]
  refine call_next (i := 6) (some 34) rfl rfl (by kernel_rfl) (by rfl) 70 _ _ _ rfl Try.func70 (by decide) rfl #[.agg #[.int .i64 p', .slice (some ⟨B, 0, none⟩) c' c'], .int .i64 t, .func (.func 72) #[] #[], .func (.func 71) #[] #[]] (mapw4 _ _ _ _ _ _ _ _ _ rfl rfl rfl rfl) _ (HWB.out _ (HPF.out.grow hbl1)) ?_
  rintro e v2 ⟨rfl, hbl2⟩
  refine ⟨_, rfl, ?_, fun hHeld => ?_⟩
  · exact cells2 (keep (keep HVF.out hbl1) hbl2)
  simp only [Act.put, List.setIfInBounds_toArray, List.set_cons_zero, List.set_cons_succ]
  refine take_yes (i := 7) (some 35) (.agg #[.int .i64 p', .slice (some ⟨B, 0, none⟩) c' c', .int .u16 (F : Int), .int .u16 (K : Int)]) rfl rfl (by kernel_rfl) (by kernel_rfl) (by kernel_rfl) (fun _ _ _ h => h) (by rfl) ?_ (by assumption) ?_
  · intro W hSw
    obtain ⟨hz0, hz1⟩ := hSw
    go_simp
  simp only [Act.put, List.setIfInBounds_toArray, List.set_cons_zero, List.set_cons_succ]
  refine store_next (i := 8) rfl rfl (by kernel_rfl) (by rfl) 76 _ _ rfl (w.heap.size + 1) #[.int .i64 p', .slice (some ⟨B, 0, none⟩) c' c', .int .u16 (F : Int), .int .u16 (K : Int)] rfl rfl 76 _ (keep (keep HRF.out hbl1) hbl2) Try.size76 rfl (by simp [Value.oneCell']) ?_ (fun hHeld => ?_)
  · exact cells2 ((setRow_otherW _ hVR _).trans (keep (keep HVF.out hbl1) hbl2))
  refine take_yes (i := 9) (some 7) (.bool true) rfl rfl (by kernel_rfl) (by kernel_rfl) (by kernel_rfl) (fun _ _ _ h => h) (by rfl) ?_ (by assumption) ?_
  · intro W hSw
    obtain ⟨hz0, hz1⟩ := hSw
    go_simp
  simp only [Act.put, List.setIfInBounds_toArray, List.set_cons_zero, List.set_cons_succ]
  refine wpAnyH_done (by kernel_rfl) ?_ _
  obtain ⟨⟨hr0, hr1, hr2, hr3⟩, _⟩ := cells4 (setRow_sameW (keep (keep HRF.out hbl1) hbl2) #[.int .i64 p', .slice (some ⟨B, 0, none⟩) c' c', .int .u16 (F : Int), .int .u16 (K : Int)])
  have HPX := hide (((HPF.out.grow hbl1).grow hbl2).setRowW (g := w.heap.size + 1) (by have := HBs.out; omega) #[.int .i64 p', .slice (some ⟨B, 0, none⟩) c' c', .int .u16 (F : Int), .int .u16 (K : Int)])
  have HBX := hide (below_setRow (HBF.out.trans ((hbl1.trans (hbl2.mono hbl1.size)).mono HBF.out.size)) (w.heap.size + 1) (by omega) #[.int .i64 p', .slice (some ⟨B, 0, none⟩) c' c', .int .u16 (F : Int), .int .u16 (K : Int)])
  clear hbl1 hbl2 HPF HBF hHeld HRF HVF
  go_wp2_with fail
  refine bodyPost_ret (v := .tuple #[.agg #[.int .i64 p', .slice (some ⟨B, 0, none⟩) c' c', .int .u16 (F : Int), .int .u16 (K : Int)], .bool true]) (by simp [results, Try.results43, go_sem, hr0, hr1, hr2, hr3]) rfl ?_
  exact ⟨_, _, _, _, F, K, by rw [HOK.out], fun _ => ⟨rfl, rfl, rfl, hF.out.symm, hK.out.symm, B, rfl, by have := HBs.out; omega, HPX.out⟩, HBX.out⟩
end Go.Proofs.Ytnknhjiofpjbbaa
