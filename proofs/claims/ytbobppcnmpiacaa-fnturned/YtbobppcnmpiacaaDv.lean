/- DrawTakersOf: a drawn net and a number; nothing that was there is written. -/
import Derived.Test.YtbobppcnmpiacaaDf
namespace Go.Proofs.Ytbobppcnmpiacaa
open Go.RowKit
set_option maxRecDepth 10000

def TakDr (w : World) (e : Ending) (w' : World) : Prop :=
  ∃ (pl : Int) (a : Option Addr) (k c : Nat) (L : List (List Int)) (t : Int), e = .returned (.tuple #[.agg #[.int .i64 pl, .slice a k c], .int .i64 t]) ∧ (0 ≤ pl ∧ pl ≤ 17) ∧ (1 ≤ k ∧ k ≤ 5) ∧ Lists w' a (3 * k) L ∧ sizeN k L ≤ 35 ∧ (-1 ≤ t ∧ t ≤ 6) ∧ Below w.heap.size w w'

set_option maxHeartbeats 2000000 in
theorem drawTakers_any (ca : Option Addr) (cn cc : Nat) (bs : List Int) (w : World) (hr : RowB w ca cn bs) (hn : cn ≤ 1048576) :
    Calls Try.prog 24 #[.slice ca cn cc] w fun e w' => TakDr w e w' := by
  have hA := below_al w (.cells #[.int .i64 0, .slice none 0 0] 26)
  have hA2 := below_al (w.alloc (.cells #[.int .i64 0, .slice none 0 0] 26)) (.cells #[.slice ca cn cc, .int .i64 0, .int .u64 0] 57)
  have HB := hide (hA.trans (hA2.mono hA.size))
  have HR := hide (hr.below HB.out)
  have HAP : Hid (Apart ca cn (w.heap.size + 1)) := fun h0 y hy => by have := hr.far h0 y hy; omega
  have HC : Hid (Cur ((w.alloc (.cells #[.int .i64 0, .slice none 0 0] 26)).alloc (.cells #[.slice ca cn cc, .int .i64 0, .int .u64 0] 57)) (w.heap.size + 1) ca cn cc 0) := ⟨0, by have := heap_alloc_new (w.alloc (.cells #[.int .i64 0, .slice none 0 0] 26)) (.cells #[.slice ca cn cc, .int .i64 0, .int .u64 0] 57); simpa using this⟩
  have HRES : Hid (((w.alloc (.cells #[.int .i64 0, .slice none 0 0] 26)).alloc (.cells #[.slice ca cn cc, .int .i64 0, .int .u64 0] 57)).heap[w.heap.size]? = some (.cells #[.int .i64 0, .slice none 0 0] 26 (0, 0))) := by
    show ((w.alloc _).alloc _).heap[w.heap.size]? = _
    rw [hA2.block _ (by simp)]; exact heap_alloc_new _ _
  have HSZ : Hid (((w.alloc (.cells #[.int .i64 0, .slice none 0 0] 26)).alloc (.cells #[.slice ca cn cc, .int .i64 0, .int .u64 0] 57)).heap.size = w.heap.size + 2) := by show _ = _; simp
  clear hr hA hA2
  go_enter Try.func24, Try.ntmps24
  go_wp2_with fail
  generalize (w.alloc (.cells #[.int .i64 0, .slice none 0 0] 26)).alloc (.cells #[.slice ca cn cc, .int .i64 0, .int .u64 0] 57) = w2 at HB HR HC HRES HSZ ⊢
  generalize hbb : w.heap.size + 1 = bc at HAP HC HSZ ⊢
  refine (net_draw true bc ca cn cc 0 bs _ HC.out HR.out HAP.out (by omega) hn).mono ?_
  rintro e v1 ⟨pl, u, k, cells, p1, rfl, hpl, hk1, hk5, hp1, hnet, hcur, hby, hkp⟩
  obtain ⟨a, c, L0, rfl, _, _, _⟩ := hnet.lists hk5
  have hA := below_al v1 (.cells #[.int .i64 pl, .slice a k c] 26)
  have hbw : bc < w2.heap.size := HC.out.lt
  have hb1 : bc < v1.heap.size := hcur.lt
  have hs1 := hkp.size
  have hsz := HSZ.out
  have N3 := hide (hnet.moved hA.size fun q _ hq => hA.block q hq)
  have C3 := hide (hcur.below hA hcur.lt)
  have B3 := hide (hby.kept (Kept.of_below (bc := bc) hA) HAP.out)
  have K3 := hide (hkp.trans ((Kept.of_below (bc := bc) hA).mono hs1))
  have V3 := hide (heap_alloc_new v1 (.cells #[.int .i64 pl, .slice a k c] 26))
  have hVb : v1.heap.size ≠ bc := by omega
  have hVR : v1.heap.size ≠ w.heap.size := by omega
  have HRw := hide (show w.heap.size < w2.heap.size ∧ w.heap.size ≠ bc by omega)
  have HBC := hide hbw
  have HBB := hide hbb
  clear hnet hcur hby hkp hA HC HR hbb hsz hs1 hb1 HSZ hbw
  go_wp2_with fail
  generalize v1.alloc (.cells #[.int .i64 pl, .slice a k c] 26) = W3 at N3 C3 B3 K3 V3 ⊢
  generalize v1.heap.size = V at V3 hVb hVR ⊢
  have hV0 : W3.cell? ⟨V, 0, none⟩ = some (.int .i64 pl) := cell_of_row W3 V 0 _ _ _ V3.out
  have hV1 : W3.cell? ⟨V, 1, none⟩ = some (.slice a k c) := cell_of_row W3 V 1 _ _ _ V3.out
  have HLT := hide (show w.heap.size < W3.drew.heap.size from Nat.lt_of_lt_of_le HRw.out.1 K3.out.size)
  have HR3 := hide (show W3.drew.heap[w.heap.size]? = some (.cells #[.int .i64 0, .slice none 0 0] 26 (0, 0)) from (K3.out.block _ HRw.out.1 HRw.out.2).trans HRES.out)
  go_region_held3 (fun W => W.cell? ⟨V, 0, none⟩ = some (.int .i64 pl) ∧ W.cell? ⟨V, 1, none⟩ = some (.slice a k c)) (first | (refine ⟨?_, ?_⟩ <;> simp only [World.cell?_drew] <;> assumption) | (apply keepK2; assumption; assumption; assumption) | (apply keepO2; assumption; assumption; assumption) | (apply keepS2; assumption; assumption))
    (first
      | (go_at_call 36; refine (pick_any 7 bc ca cn cc p1 bs _ ?_ ?_ (by omega) hn (by omega) (by omega)).mono ?_; exact C3.out.below (Below.refl _ W3).drew C3.out.lt; exact B3.out.below (Below.refl _ W3).drew; rintro e v4 ⟨r, rfl, hr, hc4, ho4⟩; have hR4 := (ho4.block _ HRw.out.2).trans HR3.out; have hr0 : v4.cell? ⟨w.heap.size, 0, none⟩ = some (.int .i64 0) := cell_of_row v4 _ 0 _ _ _ hR4; have hr1 : v4.cell? ⟨w.heap.size, 1, none⟩ = some (.slice none 0 0) := cell_of_row v4 _ 1 _ _ _ hR4; have hf0 : v4.frozen? ⟨w.heap.size, 0, none⟩ = false := frozen_of_row v4 _ 0 _ _ hR4; have hf1 : v4.frozen? ⟨w.heap.size, 1, none⟩ = false := frozen_of_row v4 _ 1 _ _ hR4; have HR4 := hide hR4; clear hR4))
  have HE : Hid (TakDr w (.returned (.tuple #[.agg #[.int .i64 pl, .slice a k c], .int .i64 (IntKind.i64.wrap ((r : Int) - 1))])) ((v4.setCell ⟨w.heap.size, 0, none⟩ (.int .i64 pl)).setCell ⟨w.heap.size, 1, none⟩ (.slice a k c))) := by
    have hbw := HBC.out
    have hs3 : w2.heap.size ≤ W3.drew.heap.size := K3.out.size
    have hRw := HRw.out
    have hset : ∀ q, q ≠ w.heap.size → ((v4.setCell ⟨w.heap.size, 0, none⟩ (.int .i64 pl)).setCell ⟨w.heap.size, 1, none⟩ (.slice a k c)).heap[q]? = v4.heap[q]? := fun q hq => (Below.heap_setCell _ _ _ _ hq).trans (Below.heap_setCell _ _ _ _ hq)
    have hszF : v4.heap.size ≤ ((v4.setCell ⟨w.heap.size, 0, none⟩ (.int .i64 pl)).setCell ⟨w.heap.size, 1, none⟩ (.slice a k c)).heap.size := by simp [World.setCell]
    have K34 : Kept bc W3.drew.heap.size W3.drew v4 := Kept.of_only ho4
    have N4 : NetOwn w2.heap.size v4 (.slice a k c) k cells := (N3.out.moved (v' := W3.drew) (Nat.le_refl _) fun q _ _ => rfl).kept K34 (Nat.le_refl _) hbw
    have NF := N4.moved hszF fun q hq _ => hset q (by omega)
    obtain ⟨a', c', L, e', hl, hsl, _⟩ := NF.lists hk5
    obtain ⟨rfl, rfl⟩ : a = a' ∧ c = c' := by simpa using e'
    have e2 : IntKind.i64.wrap ((r : Int) - 1) = (r : Int) - 1 := by rw [IntKind.wrap_i64]; omega
    have hbw2 := HBB.out
    have KF : Kept bc w2.heap.size w2 v4 := (K3.out.trans (⟨rfl, rfl, rfl, Nat.le_refl _, fun _ _ _ => rfl⟩ : Kept bc w2.heap.size W3 W3.drew)).trans (K34.mono hs3)
    refine ⟨pl, a, k, c, L, _, rfl, hpl, ⟨hk1, hk5⟩, hl, hsl, by rw [e2]; omega, ?_⟩
    refine Below.setCell (p := ⟨w.heap.size, 1, none⟩) (Below.setCell (p := ⟨w.heap.size, 0, none⟩) ?_ (Nat.le_refl _) _) (Nat.le_refl _) _
    exact HB.out.trans ((KF.mono HB.out.size).below (by omega))
  clear HR4 ho4 hc4 HLT HR3 hVb hVR HRw HBC HBB hV0 hV1
  go_wp2_with fail
  refine bodyPost_ret (v := .tuple #[.agg #[.int .i64 pl, .slice a k c], .int .i64 (IntKind.i64.wrap ((r : Int) - 1))]) (by simp [results, Try.results24, go_sem, hr0, hr1]) rfl ?_
  exact HE.out
end Go.Proofs.Ytbobppcnmpiacaa
