/- l1Own: a list's own copy. -/
import Derived.Test.YtbobppcnmpiacaaTv
namespace Go.Proofs.Ytbobppcnmpiacaa
open Go.RowKit

theorem Row.cells2 {w : World} {b off n : Nat} {xs : List Int} (h : Row w (some ⟨b, off, none⟩) n xs) : ∀ j u, (xs.map (Value.int .i64))[j]? = some u → w.cell? ((⟨b, off, none⟩ : Addr).add j) = some u := by
  intro j u hu
  rw [Addr.add_mid]
  simp only [List.getElem?_map, Option.map_eq_some_iff] at hu
  obtain ⟨x, hx, rfl⟩ := hu
  have hj := (List.getElem?_eq_some_iff.mp hx).1
  have hl := h.1
  obtain ⟨b1, o1, y, he, _, hc, H⟩ := h.at (show j < n by omega)
  simp only [Option.some.injEq, Addr.mk.injEq] at he
  obtain ⟨rfl, rfl, _⟩ := he
  rw [hc]
  have := H.out
  rw [hx] at this
  simp at this
  rw [this]

set_option maxHeartbeats 400000 in
theorem own2_any (b off n ca : Nat) (xs : List Int) (w : World) (ha : Row w (some ⟨b, off, none⟩) n xs) (hn : n ≤ 1048576) :
    Calls Try.prog 38 #[.slice (some ⟨b, off, none⟩) n ca] w fun e w' => ∃ a g c, e = .returned (.slice a n c) ∧ w.heap.size ≤ g ∧ Ob w' a g n xs ∧ Below w.heap.size w w' := by
  obtain ⟨i0, hi, hz0, hz1, hz2⟩ := info_split2 Try.info3
  have HA := hide ha
  have HL := hide ha.1
  clear ha
  have HW := hide (HA.out.alloc (.cells #[] 3))
  have HO : Hid ((w.alloc (.cells #[] 3)).ownsRow w.heap.size 3 1 (.slice (some ⟨w.heap.size, 0, none⟩) 0 0) 0 []) :=
    ⟨rfl, .inr ⟨w.heap.size, 0, #[], rfl, Nat.le_refl _, heap_alloc_new _ _, Nat.le_refl _, Nat.zero_le _, rfl, rfl⟩⟩
  have HN := hide (show (xs.map (Value.int .i64)).length = n * 1 by rw [List.length_map, Nat.mul_one]; exact HL.out)
  have H1 := hide (show ∀ u ∈ xs.map (Value.int .i64), u.oneCell' = true by intro u hu; simp at hu; obtain ⟨x, _, rfl⟩ := hu; rfl)
  have HX := hide (show 0 + n ≤ maxLen by unfold maxLen; omega)
  have HY := hide (show (0 + n) * 8 ≤ 140737488355328 by omega)
  have HZ := hide (show w.heap.size ≤ (w.alloc (.cells #[] 3)).heap.size by simp)
  go_enter Try.func38, Try.ntmps38
  go_wp2_with (refine wpList_append_own _ rfl (.tmp 3) (.tmp 4) 27 rfl w.heap.size 3 i0 (.int .i64 0) 1 8 Try.underlying27 hi hz0 hz1 hz2 rfl (by decide) (.slice (some ⟨w.heap.size, 0, none⟩) 0 0) 0 [] rfl HO.out ⟨b, off, none⟩ n ca (xs.map (Value.int .i64)) rfl HN.out HW.out.cells2 H1.out HX.out HY.out HZ.out ?_; intro v' W' r1 r2 r3)
  go_ret
  rw [Nat.zero_add, List.nil_append] at r1
  obtain ⟨a, g, c, rfl, hg, hout⟩ := own_ob2 r1
  exact ⟨a, g, c, rfl, hg, hout, (below_al w _).grown r2 (by simp) (fun k hk => by simp [Value.ownBlock] at hk; omega)⟩
end Go.Proofs.Ytbobppcnmpiacaa
