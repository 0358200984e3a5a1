/- lists of a step and of a net of steps: sets of places as lists again. -/
import Derived.Test.YtnknhjiofpjbbaaXa
import Derived.Test.YtnknhjiofpjbbaaWr
import Derived.Test.YtnknhjiofpjbbaaWf
namespace Go.Proofs.Ytnknhjiofpjbbaa
open Go.RowKit
set_option maxRecDepth 10000

/-- How lists of a step ends. -/
def LiEnd (X0 X1 X2 : List Int) (w : World) (e : Ending) (w' : World) : Prop :=
  ∃ a0 b0 m0 c0 a1 b1 m1 c1 a2 b2 m2 c2, e = .returned (.agg #[.slice a0 m0 c0, .slice a1 m1 c1, .slice a2 m2 c2]) ∧ Ob w' a0 b0 m0 X0 ∧ Ob w' a1 b1 m1 X1 ∧ Ob w' a2 b2 m2 X2 ∧
    w.heap.size ≤ b0 ∧ w.heap.size ≤ b1 ∧ w.heap.size ≤ b2 ∧ (X0 ≠ [] → X1 ≠ [] → b0 ≠ b1) ∧ (X0 ≠ [] → X2 ≠ [] → b0 ≠ b2) ∧ (X1 ≠ [] → X2 ≠ [] → b1 ≠ b2) ∧ Below w.heap.size w w'

theorem Ob.setRowX {w : World} {a : Option Addr} {b n g : Nat} {xs : List Int} (h : Ob w a b n xs) (hg : b ≠ g) (D : Array Value) : Ob (w.setRow g D) a b n xs :=
  h.movedX fun _ => setRow_otherW w hg D

set_option maxHeartbeats 2000000 in
theorem stepLists_any (s0 s1 s2 : Nat) (w : World) (h0 : s0 < 2 ^ 16) (h1 : s1 < 2 ^ 16) (h2 : s2 < 2 ^ 16) :
    Calls Try.prog 77 #[.agg #[.int .u16 (s0 : Int), .int .u16 (s1 : Int), .int .u16 (s2 : Int)]] w fun e w' => LiEnd (nums2 s0.testBit 16) (nums2 s1.testBit 16) (nums2 s2.testBit 16) w e w' := by
  have HB0 := hide (below_two w (.cells #[.int .u16 (s0 : Int), .int .u16 (s1 : Int), .int .u16 (s2 : Int)] 92) (.cells #[.slice none 0 0, .slice none 0 0, .slice none 0 0] 56))
  have HX := hide (keep (heap_alloc_new w (.cells #[.int .u16 (s0 : Int), .int .u16 (s1 : Int), .int .u16 (s2 : Int)] 92)) (below_al _ (.cells #[.slice none 0 0, .slice none 0 0, .slice none 0 0] 56)))
  have hy := heap_alloc_new (w.alloc (.cells #[.int .u16 (s0 : Int), .int .u16 (s1 : Int), .int .u16 (s2 : Int)] 92)) (.cells #[.slice none 0 0, .slice none 0 0, .slice none 0 0] 56)
  rw [show (w.alloc (.cells #[.int .u16 (s0 : Int), .int .u16 (s1 : Int), .int .u16 (s2 : Int)] 92)).heap.size = w.heap.size + 1 by simp] at hy
  have HY := hide hy
  have HLs0 := hide (fun W => setList_any s0 W h0)
  have HLs1 := hide (fun W => setList_any s1 W h1)
  have HLs2 := hide (fun W => setList_any s2 W h2)
  have hz : ((w.alloc (.cells #[.int .u16 (s0 : Int), .int .u16 (s1 : Int), .int .u16 (s2 : Int)] 92)).alloc (.cells #[.slice none 0 0, .slice none 0 0, .slice none 0 0] 56)).heap.size = w.heap.size + 1 + 1 := by simp
  clear hy
  go_enter Try.func77, Try.ntmps77
  go_wp2_with fail
  obtain ⟨V, hV⟩ : ∃ V, Hid ((w.alloc (.cells #[.int .u16 (s0 : Int), .int .u16 (s1 : Int), .int .u16 (s2 : Int)] 92)).alloc (.cells #[.slice none 0 0, .slice none 0 0, .slice none 0 0] 56) = V) := ⟨_, rfl⟩
  rw [hV.out] at HX HY HB0 hz ⊢
  have HZ := hide hz
  clear hV hz
  refine wp_region_held_drew (S := fun W => W.cell? ⟨w.heap.size, 0, none⟩ = some (.int .u16 (s0 : Int)) ∧ W.cell? ⟨w.heap.size, 1, none⟩ = some (.int .u16 (s1 : Int)) ∧ W.cell? ⟨w.heap.size, 2, none⟩ = some (.int .u16 (s2 : Int))) (by kernel_rfl) ?_ (fun hHeld => ?_)
  · exact cells3W (keep HX.out (Below.refl _ V).drew)
  refine take_yes (i := 0) (some 3) (.pointer (some ⟨w.heap.size, 0, none⟩)) rfl rfl (by kernel_rfl) (by kernel_rfl) (by kernel_rfl) (fun _ _ _ h => h) (by rfl) ?_ (by assumption) ?_
  · intro W hSw
    obtain ⟨hz0, hz1, hz2⟩ := hSw
    go_simp
  simp only [Act.put, List.setIfInBounds_toArray, List.set_cons_zero, List.set_cons_succ]
  refine take_yes (i := 1) (some 4) (.int .u16 (s0 : Int)) rfl rfl (by kernel_rfl) (by kernel_rfl) (by kernel_rfl) (fun _ _ _ h => h) (by rfl) ?_ (by assumption) ?_
  · intro W hSw
    obtain ⟨hz0, hz1, hz2⟩ := hSw
    go_simp
  simp only [Act.put, List.setIfInBounds_toArray, List.set_cons_zero, List.set_cons_succ]
  refine take_yes (i := 3) (some 6) (.pointer (some ⟨w.heap.size, 1, none⟩)) rfl rfl (by kernel_rfl) (by kernel_rfl) (by kernel_rfl) (fun _ _ _ h => h) (by rfl) ?_ (by assumption) ?_
  · intro W hSw
    obtain ⟨hz0, hz1, hz2⟩ := hSw
    go_simp
  simp only [Act.put, List.setIfInBounds_toArray, List.set_cons_zero, List.set_cons_succ]
  refine take_yes (i := 4) (some 7) (.int .u16 (s1 : Int)) rfl rfl (by kernel_rfl) (by kernel_rfl) (by kernel_rfl) (fun _ _ _ h => h) (by rfl) ?_ (by assumption) ?_
  · intro W hSw
    obtain ⟨hz0, hz1, hz2⟩ := hSw
    go_simp
  simp only [Act.put, List.setIfInBounds_toArray, List.set_cons_zero, List.set_cons_succ]
  refine take_yes (i := 6) (some 9) (.pointer (some ⟨w.heap.size, 2, none⟩)) rfl rfl (by kernel_rfl) (by kernel_rfl) (by kernel_rfl) (fun _ _ _ h => h) (by rfl) ?_ (by assumption) ?_
  · intro W hSw
    obtain ⟨hz0, hz1, hz2⟩ := hSw
    go_simp
  simp only [Act.put, List.setIfInBounds_toArray, List.set_cons_zero, List.set_cons_succ]
  refine take_yes (i := 7) (some 10) (.int .u16 (s2 : Int)) rfl rfl (by kernel_rfl) (by kernel_rfl) (by kernel_rfl) (fun _ _ _ h => h) (by rfl) ?_ (by assumption) ?_
  · intro W hSw
    obtain ⟨hz0, hz1, hz2⟩ := hSw
    go_simp
  simp only [Act.put, List.setIfInBounds_toArray, List.set_cons_zero, List.set_cons_succ]
  refine call_next (i := 2) (some 5) rfl rfl (by kernel_rfl) (by rfl) 45 _ _ _ rfl Try.func45 (by decide) rfl #[.int .u16 (s0 : Int)] (mapw1 _ _ _ rfl) _ (HLs0.out _) ?_
  rintro e v1 ⟨a0, b0, m0, c0, rfl, g0, o0, hb1⟩
  refine ⟨_, rfl, ?_, fun hHeld => ?_⟩
  · exact cells3W (keep (keep HX.out (Below.refl _ V).drew) hb1)
  simp only [Act.put, List.setIfInBounds_toArray, List.set_cons_zero, List.set_cons_succ]
  refine call_next (i := 5) (some 8) rfl rfl (by kernel_rfl) (by rfl) 45 _ _ _ rfl Try.func45 (by decide) rfl #[.int .u16 (s1 : Int)] (mapw1 _ _ _ rfl) _ (HLs1.out _) ?_
  rintro e v2 ⟨a1, b1, m1, c1, rfl, g1, o1, hb2⟩
  refine ⟨_, rfl, ?_, fun hHeld => ?_⟩
  · exact cells3W (keep (keep (keep HX.out (Below.refl _ V).drew) hb1) hb2)
  simp only [Act.put, List.setIfInBounds_toArray, List.set_cons_zero, List.set_cons_succ]
  refine call_next (i := 8) (some 11) rfl rfl (by kernel_rfl) (by rfl) 45 _ _ _ rfl Try.func45 (by decide) rfl #[.int .u16 (s2 : Int)] (mapw1 _ _ _ rfl) _ (HLs2.out _) ?_
  rintro e v3 ⟨a2, b2, m2, c2, rfl, g2, o2, hb3⟩
  refine ⟨_, rfl, ?_, fun hHeld => ?_⟩
  · exact cells3W (keep (keep (keep (keep HX.out (Below.refl _ V).drew) hb1) hb2) hb3)
  simp only [Act.put, List.setIfInBounds_toArray, List.set_cons_zero, List.set_cons_succ]
  refine take_yes (i := 9) (some 12) (.agg #[.slice a0 m0 c0, .slice a1 m1 c1, .slice a2 m2 c2]) rfl rfl (by kernel_rfl) (by kernel_rfl) (by kernel_rfl) (fun _ _ _ h => h) (by rfl) ?_ (by assumption) ?_
  · intro W hSw
    obtain ⟨hz0, hz1, hz2⟩ := hSw
    go_simp
  simp only [Act.put, List.setIfInBounds_toArray, List.set_cons_zero, List.set_cons_succ]
  have HY3 := hide (keep (keep (keep (keep HY.out (Below.refl _ V).drew) hb1) hb2) hb3)
  refine store_next (i := 10) rfl rfl (by kernel_rfl) (by rfl) 56 _ _ rfl (w.heap.size + 1) #[.slice a0 m0 c0, .slice a1 m1 c1, .slice a2 m2 c2] rfl rfl 56 _ HY3.out Try.size56 rfl (by simp [Value.oneCell']) ?_ (fun hHeld => ?_)
  · exact cells3W ((setRow_otherW _ (by omega) _).trans (keep (keep (keep (keep HX.out (Below.refl _ V).drew) hb1) hb2) hb3))
  refine wpAnyH_done (by kernel_rfl) ?_ _
  obtain ⟨hr0, hr1, hr2⟩ := cells3W (setRow_sameW HY3.out #[.slice a0 m0 c0, .slice a1 m1 c1, .slice a2 m2 c2])
  have HBX := hide (below_setRow (HB0.out.drew.trans ((hb1.trans ((hb2.trans (hb3.mono hb2.size)).mono hb1.size)).mono HB0.out.drew.size)) (w.heap.size + 1) (by omega) #[.slice a0 m0 c0, .slice a1 m1 c1, .slice a2 m2 c2])
  have z0 := HZ.out
  have z1 : V.drew.heap.size = V.heap.size := rfl
  have z2 := hb1.size
  have z3 := hb2.size
  have z4 := hb3.size
  have HE : Hid (LiEnd (nums2 s0.testBit 16) (nums2 s1.testBit 16) (nums2 s2.testBit 16) w (.returned (.agg #[.slice a0 m0 c0, .slice a1 m1 c1, .slice a2 m2 c2])) (v3.setRow (w.heap.size + 1) #[.slice a0 m0 c0, .slice a1 m1 c1, .slice a2 m2 c2])) :=
    ⟨a0, b0, m0, c0, a1, b1, m1, c1, a2, b2, m2, c2, rfl, ((o0.grow hb2).grow hb3).setRowX (by omega) _, (o1.grow hb3).setRowX (by omega) _, o2.setRowX (by omega) _, by omega, by omega, by omega, fun hx _ => by have := o0.ltX hx; omega, fun hx _ => by have := o0.ltX hx; omega, fun hx _ => by have := o1.ltX hx; omega, HBX.out⟩
  clear o0 o1 o2 g0 g1 g2 hb1 hb2 hb3 hHeld z0 z1 z2 z3 z4
  go_wp2_with fail
  refine bodyPost_ret (v := .agg #[.slice a0 m0 c0, .slice a1 m1 c1, .slice a2 m2 c2]) (by simp [results, Try.results77, go_sem, hr0, hr1, hr2]) rfl ?_
  exact HE.out
end Go.Proofs.Ytnknhjiofpjbbaa
