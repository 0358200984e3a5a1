/- DrawFire: a net, a list and a number, whatever the bytes; nothing that was there is written. -/
import Derived.Test.YtbobppcnmpiacaaDm
namespace Go.Proofs.Ytbobppcnmpiacaa
open Go.RowKit
set_option maxRecDepth 10000

/-- How DrawFire ends. -/
def FireDr (w : World) (e : Ending) (w' : World) : Prop :=
  ∃ (pl : Int) (a : Option Addr) (k c : Nat) (L : List (List Int)) (b : Option Addr) (n d : Nat) (xs : List Int) (t : Int), e = .returned (.tuple #[.agg #[.int .i64 pl, .slice a k c], .slice b n d, .int .i64 t]) ∧ (0 ≤ pl ∧ pl ≤ 17) ∧ (1 ≤ k ∧ k ≤ 5) ∧ Lists w' a (3 * k) L ∧ sizeN k L ≤ 35 ∧ n ≤ 18 ∧ Row w' b n xs ∧ (-1 ≤ t ∧ t ≤ 5) ∧ Below w.heap.size w w'

theorem Row.far {w w' : World} {a : Option Addr} {n : Nat} {xs : List Int} (h : Row w a n xs) (hs : w.heap.size ≤ w'.heap.size) (hk : ∀ x, 0 < n → a = some x → x.block < w.heap.size → w'.heap[x.block]? = w.heap[x.block]?) : Row w' a n xs := by
  refine ⟨h.1, ?_⟩
  rcases h.2 with h0 | ⟨b, off, e, hl, hc⟩
  · exact .inl h0
  · by_cases h0 : n = 0
    · exact .inl h0
    · exact .inr ⟨b, off, e, Nat.lt_of_lt_of_le hl hs, fun i hi => (World.cell?_of_block (a := ⟨b, off + i, none⟩) (hk ⟨b, off, none⟩ (by omega) e hl)).trans (hc i hi)⟩

theorem keepK2 {W W' : World} {bc V : Nat} {x y : Value} (hk : Kept bc W.heap.size W W') (hne : V ≠ bc) (h : W.cell? ⟨V, 0, none⟩ = some x ∧ W.cell? ⟨V, 1, none⟩ = some y) : W'.cell? ⟨V, 0, none⟩ = some x ∧ W'.cell? ⟨V, 1, none⟩ = some y := ⟨keepK hk hne h.1, keepK hk hne h.2⟩
theorem keepO2 {W W' : World} {bc V : Nat} {x y : Value} (hk : OnlyC bc W W') (hne : V ≠ bc) (h : W.cell? ⟨V, 0, none⟩ = some x ∧ W.cell? ⟨V, 1, none⟩ = some y) : W'.cell? ⟨V, 0, none⟩ = some x ∧ W'.cell? ⟨V, 1, none⟩ = some y := keepK2 (Kept.of_only hk) hne h
theorem keepS2 {W : World} {V R : Nat} {x y u v : Value} (hne : V ≠ R) (h : W.cell? ⟨V, 0, none⟩ = some x ∧ W.cell? ⟨V, 1, none⟩ = some y) : ((W.setCell ⟨R, 0, none⟩ u).setCell ⟨R, 1, none⟩ v).cell? ⟨V, 0, none⟩ = some x ∧ ((W.setCell ⟨R, 0, none⟩ u).setCell ⟨R, 1, none⟩ v).cell? ⟨V, 1, none⟩ = some y := by
  have far : ∀ o, ((W.setCell ⟨R, 0, none⟩ u).setCell ⟨R, 1, none⟩ v).cell? ⟨V, o, none⟩ = W.cell? ⟨V, o, none⟩ := fun o => by
    rw [World.cell?_setCell_far _ _ _ _ (fun e => hne e.symm), World.cell?_setCell_far _ _ _ _ (fun e => hne e.symm)]
  exact ⟨(far 0).trans h.1, (far 1).trans h.2⟩

set_option maxHeartbeats 2000000 in
theorem drawFire_any (ca : Option Addr) (cn cc : Nat) (bs : List Int) (w : World) (hr : RowB w ca cn bs) (hn : cn ≤ 1048576) :
    Calls Try.prog 16 #[.slice ca cn cc] w fun e w' => FireDr w e w' := by
  have hA := below_al w (.cells #[.int .i64 0, .slice none 0 0] 26)
  have hA2 := below_al (w.alloc (.cells #[.int .i64 0, .slice none 0 0] 26)) (.cells #[.slice ca cn cc, .int .i64 0, .int .u64 0] 57)
  have HB := hide (hA.trans (hA2.mono hA.size))
  have HR := hide (hr.below HB.out)
  have HAP : Hid (Apart ca cn (w.heap.size + 1)) := fun h0 y hy => by have := hr.far h0 y hy; omega
  have HC : Hid (Cur ((w.alloc (.cells #[.int .i64 0, .slice none 0 0] 26)).alloc (.cells #[.slice ca cn cc, .int .i64 0, .int .u64 0] 57)) (w.heap.size + 1) ca cn cc 0) := ⟨0, by have := heap_alloc_new (w.alloc (.cells #[.int .i64 0, .slice none 0 0] 26)) (.cells #[.slice ca cn cc, .int .i64 0, .int .u64 0] 57); simpa using this⟩
  have HRES : Hid (((w.alloc (.cells #[.int .i64 0, .slice none 0 0] 26)).alloc (.cells #[.slice ca cn cc, .int .i64 0, .int .u64 0] 57)).heap[w.heap.size]? = some (.cells #[.int .i64 0, .slice none 0 0] 26 (0, 0))) := by
    show ((w.alloc _).alloc _).heap[w.heap.size]? = _
    rw [hA2.block _ (by simp)]; exact heap_alloc_new _ _
  have HSZ : Hid (((w.alloc (.cells #[.int .i64 0, .slice none 0 0] 26)).alloc (.cells #[.slice ca cn cc, .int .i64 0, .int .u64 0] 57)).heap.size = w.heap.size + 2) := by show _ = _; simp
  clear hr hA hA2
  go_enter Try.func16, Try.ntmps16
  go_wp2_with fail
  generalize (w.alloc (.cells #[.int .i64 0, .slice none 0 0] 26)).alloc (.cells #[.slice ca cn cc, .int .i64 0, .int .u64 0] 57) = w2 at HB HR HC HRES HSZ ⊢
  have HRb := hide (Eq.refl w.heap.size)
  generalize hbb : w.heap.size + 1 = bc at HAP HC HSZ ⊢
  refine (net_draw true bc ca cn cc 0 bs _ HC.out HR.out HAP.out (by omega) hn).mono ?_
  rintro e v1 ⟨pl, u, k, cells, p1, rfl, hpl, hk1, hk5, hp1, hnet, hcur, hby, hkp⟩
  obtain ⟨a, c, L0, rfl, _, _, _⟩ := hnet.lists hk5
  have hA := below_al v1 (.cells #[.int .i64 pl, .slice a k c] 26)
  have hbw : bc < w2.heap.size := HC.out.lt
  have hb1 : bc < v1.heap.size := hcur.lt
  have hs1 := hkp.size
  have hsz := HSZ.out
  have N3 := hide (hnet.moved hA.size fun q _ hq => hA.block q hq)
  have C3 := hide (hcur.below hA hcur.lt)
  have B3 := hide (hby.kept (Kept.of_below (bc := bc) hA) HAP.out)
  have K3 := hide (hkp.trans ((Kept.of_below (bc := bc) hA).mono hs1))
  have V3 := hide (heap_alloc_new v1 (.cells #[.int .i64 pl, .slice a k c] 26))
  have hVb : v1.heap.size ≠ bc := by omega
  have hVR : v1.heap.size ≠ w.heap.size := by omega
  have HRw := hide (show w.heap.size < w2.heap.size ∧ w.heap.size ≠ bc by omega)
  have HBC := hide hbw
  have HBB := hide hbb
  clear hnet hcur hby hkp hA HC HR hbb hsz hs1 hb1 HSZ hbw
  go_wp2_with fail
  generalize v1.alloc (.cells #[.int .i64 pl, .slice a k c] 26) = W3 at N3 C3 B3 K3 V3 ⊢
  generalize v1.heap.size = V at V3 hVb hVR ⊢
  have hV0 : W3.cell? ⟨V, 0, none⟩ = some (.int .i64 pl) := cell_of_row W3 V 0 _ _ _ V3.out
  have hV1 : W3.cell? ⟨V, 1, none⟩ = some (.slice a k c) := cell_of_row W3 V 1 _ _ _ V3.out
  have HLT := hide (show w.heap.size < W3.drew.heap.size from Nat.lt_of_lt_of_le HRw.out.1 K3.out.size)
  have HR3 := hide (show W3.drew.heap[w.heap.size]? = some (.cells #[.int .i64 0, .slice none 0 0] 26 (0, 0)) from (K3.out.block _ HRw.out.1 HRw.out.2).trans HRES.out)
  go_region_held3 (fun W => W.cell? ⟨V, 0, none⟩ = some (.int .i64 pl) ∧ W.cell? ⟨V, 1, none⟩ = some (.slice a k c)) (first | (refine ⟨?_, ?_⟩ <;> simp only [World.cell?_drew] <;> assumption) | (apply keepK2; assumption; assumption; assumption) | (apply keepO2; assumption; assumption; assumption) | (apply keepS2; assumption; assumption))
    (first
      | (go_at_call 35; refine (markOf_draw pl a k c bc ca cn cc p1 bs _ ?_ ?_ HAP.out (by omega) hn hpl).mono ?_; exact C3.out.below (Below.refl _ W3).drew C3.out.lt; exact B3.out.below (Below.refl _ W3).drew; rintro e v2 ⟨b, n, d, xs, p2, rfl, hn18, hp2, hrow, hnew, hc2, hb2, hk2⟩)
      | (go_at_call_of 36 (Value.int .i64 6); refine (pick_any 6 bc ca cn cc p2 bs _ hc2 hb2 (by omega) hn (by omega) (by omega)).mono ?_; rintro e v3 ⟨r, rfl, hr, hc3, ho3⟩)
      | (go_at_call_of 36 (Value.int .i64 12); refine (pick_any 12 bc ca cn cc (p2 + 1) bs _ hc3 (hb2.keep ho3 HAP.out) (by omega) hn (by omega) (by omega)).mono ?_; rintro e v4 ⟨r2, rfl, hr2, hc4, ho4⟩; have hR4 := (ho4.block _ HRw.out.2).trans ((ho3.block _ HRw.out.2).trans ((hk2.block _ HLT.out HRw.out.2).trans HR3.out)); have hr0 : v4.cell? ⟨w.heap.size, 0, none⟩ = some (.int .i64 0) := cell_of_row v4 _ 0 _ _ _ hR4; have hr1 : v4.cell? ⟨w.heap.size, 1, none⟩ = some (.slice none 0 0) := cell_of_row v4 _ 1 _ _ _ hR4; have hf0 : v4.frozen? ⟨w.heap.size, 0, none⟩ = false := frozen_of_row v4 _ 0 _ _ hR4; have hf1 : v4.frozen? ⟨w.heap.size, 1, none⟩ = false := frozen_of_row v4 _ 1 _ _ hR4; have HR4 := hide hR4; clear hR4))
  have HE : Hid (FireDr w (.returned (.tuple #[.agg #[.int .i64 pl, .slice a k c], .slice b n d, .int .i64 (IntKind.i64.wrap ((r : Int) - IntKind.i64.wrap ((r2 : Int) / 11)))])) ((v4.setCell ⟨w.heap.size, 0, none⟩ (.int .i64 pl)).setCell ⟨w.heap.size, 1, none⟩ (.slice a k c))) := by
    have hbw := HBC.out
    have hs3 : w2.heap.size ≤ W3.drew.heap.size := K3.out.size
    have hs2 := hk2.size
    have hRw := HRw.out
    have hset : ∀ q, q ≠ w.heap.size → ((v4.setCell ⟨w.heap.size, 0, none⟩ (.int .i64 pl)).setCell ⟨w.heap.size, 1, none⟩ (.slice a k c)).heap[q]? = v4.heap[q]? := fun q hq => (Below.heap_setCell _ _ _ _ hq).trans (Below.heap_setCell _ _ _ _ hq)
    have hszF : v4.heap.size ≤ ((v4.setCell ⟨w.heap.size, 0, none⟩ (.int .i64 pl)).setCell ⟨w.heap.size, 1, none⟩ (.slice a k c)).heap.size := by simp [World.setCell]
    have K34 : Kept bc v2.heap.size v2 v4 := (Kept.of_only ho3).trans (Kept.of_only ho4)
    have N4 : NetOwn w2.heap.size v4 (.slice a k c) k cells := ((N3.out.moved (v' := W3.drew) (Nat.le_refl _) fun q _ _ => rfl).kept hk2 (Nat.le_refl _) hbw).kept K34 (Nat.le_refl _) hbw
    have NF := N4.moved hszF fun q hq _ => hset q (by omega)
    obtain ⟨a', c', L, e', hl, hsl, _⟩ := NF.lists hk5
    obtain ⟨rfl, rfl⟩ : a = a' ∧ c = c' := by simpa using e'
    have e1 : IntKind.i64.wrap ((r2 : Int) / 11) = (r2 : Int) / 11 := by rw [IntKind.wrap_i64]; omega
    have e2 : IntKind.i64.wrap ((r : Int) - (r2 : Int) / 11) = (r : Int) - (r2 : Int) / 11 := by rw [IntKind.wrap_i64]; omega
    have hbw2 := HBB.out
    have KF : Kept bc w2.heap.size w2 v4 := ((K3.out.trans (⟨rfl, rfl, rfl, Nat.le_refl _, fun _ _ _ => rfl⟩ : Kept bc w2.heap.size W3 W3.drew)).trans (hk2.mono hs3)).trans (K34.mono (by omega))
    refine ⟨pl, a, k, c, L, b, n, d, xs, _, rfl, hpl, ⟨hk1, hk5⟩, hl, hsl, hn18, ?_, by rw [e1, e2]; omega, ?_⟩
    · refine (hrow.far K34.size fun x h0 hx hlt => K34.block _ hlt ?_).far hszF fun x h0 hx hlt => hset _ ?_
      · have := hnew h0 x hx; omega
      · have := hnew h0 x hx; omega
    · refine Below.setCell (p := ⟨w.heap.size, 1, none⟩) (Below.setCell (p := ⟨w.heap.size, 0, none⟩) ?_ (Nat.le_refl _) _) (Nat.le_refl _) _
      exact HB.out.trans ((KF.mono HB.out.size).below (by omega))
  clear HR4 ho4 hc4 ho3 hc3 hk2 hb2 hc2 hnew hrow HLT HR3 hVb hVR HRw HBC HBB hV0 hV1
  go_wp2_with fail
  refine bodyPost_ret (v := .tuple #[.agg #[.int .i64 pl, .slice a k c], .slice b n d, .int .i64 (IntKind.i64.wrap ((r : Int) - IntKind.i64.wrap ((r2 : Int) / 11)))]) (by simp [results, Try.results16, go_sem, hr0, hr1]) rfl ?_
  exact HE.out
end Go.Proofs.Ytbobppcnmpiacaa
