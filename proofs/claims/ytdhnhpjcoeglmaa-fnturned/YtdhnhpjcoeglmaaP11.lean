/- Contracts that the proof stands on, one behind the other. -/
import Derived.Test.YtdhnhpjcoeglmaaP10
/- DrawTurnNet: a drawn net without resets, its lists in new memory; nothing that was there is written. -/
namespace Go.Proofs.Ytdhnhpjcoeglmaa
open Go.RowKit
set_option maxRecDepth 10000

structure DnSt (w v : World) (D : Nat) (bc : Nat) (ca : Option Addr) (cn cc p : Nat) (bs : List Int) (V : Nat) (pl : Int) (g k cp : Nat) (cells : List Value) : Prop where
  net : NetOwn D v (.slice (some ⟨g, 0, none⟩) k cp) k cells
  var : v.heap[V]? = some (.cells #[.int .i64 pl, .slice (some ⟨g, 0, none⟩) k cp] 26 (0, 0))
  res : v.heap[w.heap.size]? = some (.cells #[.int .i64 0, .slice none 0 0] 26 (0, 0))
  cur : Cur v bc ca cn cc p
  bytes : RowB v ca cn bs
  bel : Below w.heap.size w v

section
variable {w v v' : World} {D bc : Nat} {ca : Option Addr} {cn cc p p' : Nat} {bs : List Int} {V : Nat} {pl : Int} {g k cp : Nat} {cells : List Value}

theorem DnSt.step (h : DnSt w v D bc ca cn cc p bs V pl g k cp cells) (hk : Kept bc v.heap.size v v') (hc : Cur v' bc ca cn cc p') (hr : RowB v' ca cn bs) (h1 : bc < D) (h2 : w.heap.size < bc) (h3 : V ≠ bc) : DnSt w v' D bc ca cn cc p' bs V pl g k cp cells :=
  ⟨h.net.kept hk (Nat.le_refl _) h1, (hk.block V (row_lt h.var) h3).trans h.var, (hk.block _ (row_lt h.res) (by omega)).trans h.res, hc, hr, h.bel.trans ((hk.mono h.bel.size).below (by omega))⟩

theorem DnSt.only (h : DnSt w v D bc ca cn cc p bs V pl g k cp cells) (ho : OnlyC bc v v') (hc : Cur v' bc ca cn cc p') (hap : Apart ca cn bc) (h1 : bc < D) (h2 : w.heap.size < bc) (h3 : V ≠ bc) : DnSt w v' D bc ca cn cc p' bs V pl g k cp cells :=
  h.step (Kept.of_only ho) hc (h.bytes.keep ho hap) h1 h2 h3

theorem DnSt.alloc (h : DnSt w v D bc ca cn cc p bs V pl g k cp cells) (ob : Obj) (h1 : bc < D) (h2 : w.heap.size < bc) (h3 : V ≠ bc) : DnSt w (v.alloc ob) D bc ca cn cc p bs V pl g k cp cells := by
  have hb := below_al v ob
  exact h.step (Kept.of_below hb) (h.cur.below hb h.cur.lt) (h.bytes.below hb) h1 h2 h3

theorem DnSt.set (h : DnSt w v D bc ca cn cc p bs V pl g k cp cells) {j n c : Nat} {a : Option Addr} {xs : List Int} (hj : j < 3 * k) (hn : NewL D v a n c xs) (hn2 : n ≤ 2) (hd : ∀ o, a = some o → o.block ≠ g) (h1 : bc < D) (h2 : w.heap.size < bc) (h3 : V ≠ g) (h4 : D ≤ g) (hfar : 0 < cn → ∀ y, ca = some y → y.block < w.heap.size) :
    DnSt w (v.setCell ⟨g, j, none⟩ (.slice a n c)) D bc ca cn cc p bs V pl g k cp (cells.set j (.slice a n c)) := by
  have hset : ∀ q, q ≠ g → (v.setCell ⟨g, j, none⟩ (.slice a n c)).heap[q]? = v.heap[q]? := fun q hq => Below.heap_setCell _ _ _ _ hq
  have hsz : (v.setCell ⟨g, j, none⟩ (.slice a n c)).heap.size = v.heap.size := by simp [World.setCell]
  obtain ⟨s, hs⟩ := h.cur
  refine ⟨h.net.set hj hn hn2 hd, (hset V h3).trans h.var, (hset _ (by omega)).trans h.res, ⟨s, (hset bc (by omega)).trans hs⟩, ⟨h.bytes.1, h.bytes.2.1, ?_⟩, h.bel.setCell (p := ⟨g, j, none⟩) (show _ ≤ g by omega) _⟩
  rcases h.bytes.2.2 with h0 | ⟨b, off, e, hl, hc⟩
  · exact .inl h0
  · by_cases h0 : cn = 0
    · exact .inl h0
    · have hb : b < w.heap.size := hfar (by omega) _ e
      exact .inr ⟨b, off, e, by rw [hsz]; exact hl, fun i hi => (World.cell?_of_block (hset b (by omega))).trans (hc i hi)⟩
end

/-- How it ends. -/
def DnEnd (w : World) (e : Ending) (w' : World) : Prop :=
  ∃ (pl : Int) (a : Option Addr) (k c : Nat) (L : List (List Int)), e = .returned (.agg #[.int .i64 pl, .slice a k c]) ∧ (0 ≤ pl ∧ pl ≤ 17) ∧ (1 ≤ k ∧ k ≤ 5) ∧ Lists w' a (3 * k) L ∧ sizeN k L ≤ 35 ∧ Below w.heap.size w w'

theorem DnSt.done {w v : World} {D bc : Nat} {ca : Option Addr} {cn cc p : Nat} {bs : List Int} {V : Nat} {pl : Int} {g k cp : Nat} {cells : List Value} (h : DnSt w v D bc ca cn cc p bs V pl g k cp cells) (hpl : 0 ≤ pl ∧ pl ≤ 17) (hk : 1 ≤ k ∧ k ≤ 5) (hD : w.heap.size < D) (x y : Value) :
    DnEnd w (.returned (.agg #[.int .i64 pl, .slice (some ⟨g, 0, none⟩) k cp])) ((v.setCell ⟨w.heap.size, 0, none⟩ x).setCell ⟨w.heap.size, 1, none⟩ y) := by
  have hset : ∀ q, q ≠ w.heap.size → ((v.setCell ⟨w.heap.size, 0, none⟩ x).setCell ⟨w.heap.size, 1, none⟩ y).heap[q]? = v.heap[q]? := fun q hq => (Below.heap_setCell _ _ _ _ hq).trans (Below.heap_setCell _ _ _ _ hq)
  have hsz : v.heap.size ≤ ((v.setCell ⟨w.heap.size, 0, none⟩ x).setCell ⟨w.heap.size, 1, none⟩ y).heap.size := by simp [World.setCell]
  obtain ⟨a', c', L, e', hl, hsl, _⟩ := (h.net.moved hsz fun q hq _ => hset q (by omega)).lists hk.2
  simp only [Value.slice.injEq] at e'
  obtain ⟨rfl, _, rfl⟩ := e'
  exact ⟨pl, _, k, cp, L, rfl, hpl, hk, hl, hsl, Below.setCell (p := ⟨w.heap.size, 1, none⟩) (Below.setCell (p := ⟨w.heap.size, 0, none⟩) h.bel (Nat.le_refl _) _) (Nat.le_refl _) _⟩

set_option maxHeartbeats 2000000 in
theorem drawTurn_any (ca : Option Addr) (cn cc : Nat) (bs : List Int) (w : World) (hr : RowB w ca cn bs) (hn : cn ≤ 1048576) :
    Calls Try.prog 9 #[.slice ca cn cc] w fun e w' => DnEnd w e w' := by
  have hA := below_al w (.cells #[.int .i64 0, .slice none 0 0] 26)
  have hA2 := below_al (w.alloc (.cells #[.int .i64 0, .slice none 0 0] 26)) (.cells #[.slice ca cn cc, .int .i64 0, .int .u64 0] 75)
  have HB := hide (hA.trans (hA2.mono hA.size))
  have HR := hide (hr.below HB.out)
  have HF := hide (fun h0 y hy => hr.far h0 y hy)
  have HAP : Hid (Apart ca cn (w.heap.size + 1)) := fun h0 y hy => by have := hr.far h0 y hy; omega
  have HC : Hid (Cur ((w.alloc (.cells #[.int .i64 0, .slice none 0 0] 26)).alloc (.cells #[.slice ca cn cc, .int .i64 0, .int .u64 0] 75)) (w.heap.size + 1) ca cn cc 0) := ⟨0, by have := heap_alloc_new (w.alloc (.cells #[.int .i64 0, .slice none 0 0] 26)) (.cells #[.slice ca cn cc, .int .i64 0, .int .u64 0] 75); simpa using this⟩
  have HRES : Hid (((w.alloc (.cells #[.int .i64 0, .slice none 0 0] 26)).alloc (.cells #[.slice ca cn cc, .int .i64 0, .int .u64 0] 75)).heap[w.heap.size]? = some (.cells #[.int .i64 0, .slice none 0 0] 26 (0, 0))) := by
    show ((w.alloc _).alloc _).heap[w.heap.size]? = _
    rw [hA2.block _ (by simp)]; exact heap_alloc_new _ _
  have HSZ : Hid (((w.alloc (.cells #[.int .i64 0, .slice none 0 0] 26)).alloc (.cells #[.slice ca cn cc, .int .i64 0, .int .u64 0] 75)).heap.size = w.heap.size + 2) := by show _ = _; simp
  clear hr hA hA2
  go_enter Try.func9, Try.ntmps9
  go_wp2_with fail
  generalize (w.alloc (.cells #[.int .i64 0, .slice none 0 0] 26)).alloc (.cells #[.slice ca cn cc, .int .i64 0, .int .u64 0] 75) = w2 at HB HR HC HRES HSZ ⊢
  generalize hbb : w.heap.size + 1 = bc at HAP HC ⊢
  refine (net_draw false bc ca cn cc 0 bs _ HC.out HR.out HAP.out (by omega) hn).mono ?_
  rintro e v1 ⟨pl, u, k, cells, p1, rfl, hpl, hk1, hk5, hp1, hnet, hcur, hby, hkp⟩
  obtain ⟨g, cp, rfl, hgD, hgl, _⟩ := hnet.form hk1
  have hsz := HSZ.out
  have hs1 := hkp.size
  have hA := below_al v1 (.cells #[.int .i64 pl, .slice (some ⟨g, 0, none⟩) k cp] 26)
  have S1 : Hid (DnSt w (v1.alloc (.cells #[.int .i64 pl, .slice (some ⟨g, 0, none⟩) k cp] 26)) w2.heap.size bc ca cn cc p1 bs v1.heap.size pl g k cp cells) :=
    ⟨hnet.moved hA.size fun q _ hq => hA.block q hq, heap_alloc_new _ _, (hA.block _ (by omega)).trans ((hkp.block _ (by omega) (by omega)).trans HRES.out), hcur.below hA hcur.lt, hby.below hA, (HB.out.trans ((hkp.mono HB.out.size).below (by omega))).trans (hA.mono (by have := HB.out.size; omega))⟩
  have hVg : v1.heap.size ≠ g := by omega
  have hVb : v1.heap.size ≠ bc := by omega
  have hD1 : bc < w2.heap.size := by omega
  have hD2 : w.heap.size < bc := by omega
  have hDw : w.heap.size < w2.heap.size := by omega
  clear hnet hcur hby hkp hA HC HR HRES HB HSZ hsz hs1 hbb hgl
  go_wp2_with fail
  generalize v1.alloc (.cells #[.int .i64 pl, .slice (some ⟨g, 0, none⟩) k cp] 26) = W3 at S1 ⊢
  generalize v1.heap.size = V at S1 hVg hVb ⊢
  generalize w2.heap.size = D at *
  go_loopw [14] (fun i wr => ∃ (j p' : Nat) (cells : List Value), j ≤ k ∧ i = .int .i64 j ∧ p' ≤ p1 + j ∧ Hid (DnSt w wr D bc ca cn cc p' bs V pl g k cp cells)) (fun i _ => k - (intOf i).toNat)
  case atStart => exact ⟨0, p1, cells, Nat.zero_le _, rfl, by omega, S1⟩
  case round =>
    obtain ⟨j, p', cells, hj, rfl, hp', st⟩ := hrel
    clear S1
    obtain ⟨hv0, hv1⟩ := cells2 st.out.var
    have hlV := row_lt st.out.var
    by_cases hlt : j < k
    · obtain ⟨g', cp', e', _, hgl, hcel⟩ := st.out.net.form hk1
      simp only [Value.slice.injEq, Option.some.injEq, Addr.mk.injEq] at e'
      obtain ⟨⟨rfl, _⟩, _, rfl⟩ := e'
      obtain ⟨a, n, c, xs, ez, hn2, _, _⟩ := st.out.net.tris (3 * j + 1) (by omega)
      obtain ⟨⟨z, hz, hz2⟩, hzf⟩ := hcel (3 * j + 1) (by omega)
      obtain rfl : z = .slice a n c := by rw [ez] at hz2; exact (Option.some.inj hz2).symm
      rw [show 3 * j + 1 = j * 3 + 1 by omega] at hz hzf
      clear hcel hz2 ez
      by_cases hn0 : n = 0
      · subst hn0
        have HO := hide (one_any 4 bc ca cn cc p' bs wr st.out.cur st.out.bytes (by omega) hn (by omega) (by omega))
        go_wp2_with fail
        refine HO.out.mono ?_
        rintro e v3 ⟨b, rfl, hcur, ho⟩
        have S2 := hide (st.out.only ho hcur HAP.out hD1 hD2 hVb)
        have hvg := ho.block g (by omega)
        clear hcur HO
        cases b
        · have hz3 : v3.cell? ⟨g, j * 3 + 1, none⟩ = some (.slice a 0 c) := (World.cell?_of_block hvg).trans hz
          have hzf3 : v3.frozen? ⟨g, j * 3 + 1, none⟩ = false := (World.frozen?_of_block hvg).trans hzf
          obtain ⟨hw0, hw1⟩ := cells2 S2.out.var
          have hglt : g < v3.heap.size := by rw [ho.size]; exact hgl
          have S3 := hide ((S2.out.alloc (.cells #[.int .i64 0] 3) hD1 hD2 hVb).set (j := j * 3 + 1) (a := some ⟨v3.heap.size, 0, none⟩) (n := 1) (c := 1) (xs := [0]) (by omega) (.inr ⟨v3.heap.size, rfl, by omega, by omega, by omega, by unfold maxLen; omega, row_new v3 [0] 1 _ rfl rfl⟩) (by omega) (fun o ho => by obtain rfl := Option.some.inj ho; simp; omega) hD1 hD2 hVg hgD HF.out)
          rw [World.setCell_alloc_past _ _ _ _ hglt] at S3
          clear hz hzf hv0 hv1 st ho hvg
          go_wp2_with fail
          exact ⟨⟨j + 1, p' + 1, _, by omega, by go_num, by omega, S3⟩, by simp [intOf]; omega⟩
        · have hlt3 := ho.size
          clear hz hzf hv0 hv1 st ho hvg
          go_wp2_with fail
          go_roundw
          case rel => exact ⟨j + 1, p' + 1, cells, by omega, by go_num, by omega, S2⟩
          case measure => simp [intOf]; omega
      · have hni : ((n : Int) == 0) = false := by simp; omega
        have hnd : decide ((n : Int) = 0) = false := by simp; omega
        go_wp2_with fail
        go_roundw
        case rel => exact ⟨j + 1, p', cells, by omega, by go_num, by omega, st⟩
        case measure => simp [intOf]; omega
    · have hj' : j = k := by omega
      subst hj'
      obtain ⟨hr0, hr1⟩ := cells2 st.out.res
      have hf0 : wr.frozen? ⟨w.heap.size, 0, none⟩ = false := frozen_of_row wr _ 0 _ _ st.out.res
      have hf1 : wr.frozen? ⟨w.heap.size, 1, none⟩ = false := frozen_of_row wr _ 1 _ _ st.out.res
      go_wp2_with fail
      refine bodyPost_ret (v := .agg #[.int .i64 pl, .slice (some ⟨g, 0, none⟩) j cp]) (by simp [results, Try.results9, go_sem, hr0, hr1]) rfl ?_
      exact st.out.done hpl (by omega) hDw _ _
end Go.Proofs.Ytdhnhpjcoeglmaa


/- DrawTakersOf: a drawn net and a number; nothing that was there is written. -/
namespace Go.Proofs.Ytdhnhpjcoeglmaa
open Go.RowKit
set_option maxRecDepth 10000

def TakDr (w : World) (e : Ending) (w' : World) : Prop :=
  ∃ (pl : Int) (a : Option Addr) (k c : Nat) (L : List (List Int)) (t : Int), e = .returned (.tuple #[.agg #[.int .i64 pl, .slice a k c], .int .i64 t]) ∧ (0 ≤ pl ∧ pl ≤ 17) ∧ (1 ≤ k ∧ k ≤ 5) ∧ Lists w' a (3 * k) L ∧ sizeN k L ≤ 35 ∧ (-1 ≤ t ∧ t ≤ 6) ∧ Below w.heap.size w w'

set_option maxHeartbeats 2000000 in
theorem drawTakers_any (ca : Option Addr) (cn cc : Nat) (bs : List Int) (w : World) (hr : RowB w ca cn bs) (hn : cn ≤ 1048576) :
    Calls Try.prog 16 #[.slice ca cn cc] w fun e w' => TakDr w e w' := by
  have hA := below_al w (.cells #[.int .i64 0, .slice none 0 0] 26)
  have hA2 := below_al (w.alloc (.cells #[.int .i64 0, .slice none 0 0] 26)) (.cells #[.slice ca cn cc, .int .i64 0, .int .u64 0] 75)
  have HB := hide (hA.trans (hA2.mono hA.size))
  have HR := hide (hr.below HB.out)
  have HAP : Hid (Apart ca cn (w.heap.size + 1)) := fun h0 y hy => by have := hr.far h0 y hy; omega
  have HC : Hid (Cur ((w.alloc (.cells #[.int .i64 0, .slice none 0 0] 26)).alloc (.cells #[.slice ca cn cc, .int .i64 0, .int .u64 0] 75)) (w.heap.size + 1) ca cn cc 0) := ⟨0, by have := heap_alloc_new (w.alloc (.cells #[.int .i64 0, .slice none 0 0] 26)) (.cells #[.slice ca cn cc, .int .i64 0, .int .u64 0] 75); simpa using this⟩
  have HRES : Hid (((w.alloc (.cells #[.int .i64 0, .slice none 0 0] 26)).alloc (.cells #[.slice ca cn cc, .int .i64 0, .int .u64 0] 75)).heap[w.heap.size]? = some (.cells #[.int .i64 0, .slice none 0 0] 26 (0, 0))) := by
    show ((w.alloc _).alloc _).heap[w.heap.size]? = _
    rw [hA2.block _ (by simp)]; exact heap_alloc_new _ _
  have HSZ : Hid (((w.alloc (.cells #[.int .i64 0, .slice none 0 0] 26)).alloc (.cells #[.slice ca cn cc, .int .i64 0, .int .u64 0] 75)).heap.size = w.heap.size + 2) := by show _ = _; simp
  clear hr hA hA2
  go_enter Try.func16, Try.ntmps16
  go_wp2_with fail
  generalize (w.alloc (.cells #[.int .i64 0, .slice none 0 0] 26)).alloc (.cells #[.slice ca cn cc, .int .i64 0, .int .u64 0] 75) = w2 at HB HR HC HRES HSZ ⊢
  generalize hbb : w.heap.size + 1 = bc at HAP HC HSZ ⊢
  refine (net_draw true bc ca cn cc 0 bs _ HC.out HR.out HAP.out (by omega) hn).mono ?_
  rintro e v1 ⟨pl, u, k, cells, p1, rfl, hpl, hk1, hk5, hp1, hnet, hcur, hby, hkp⟩
  obtain ⟨a, c, L0, rfl, _, _, _⟩ := hnet.lists hk5
  have hA := below_al v1 (.cells #[.int .i64 pl, .slice a k c] 26)
  have hbw : bc < w2.heap.size := HC.out.lt
  have hb1 : bc < v1.heap.size := hcur.lt
  have hs1 := hkp.size
  have hsz := HSZ.out
  have N3 := hide (hnet.moved hA.size fun q _ hq => hA.block q hq)
  have C3 := hide (hcur.below hA hcur.lt)
  have B3 := hide (hby.kept (Kept.of_below (bc := bc) hA) HAP.out)
  have K3 := hide (hkp.trans ((Kept.of_below (bc := bc) hA).mono hs1))
  have V3 := hide (heap_alloc_new v1 (.cells #[.int .i64 pl, .slice a k c] 26))
  have hVb : v1.heap.size ≠ bc := by omega
  have hVR : v1.heap.size ≠ w.heap.size := by omega
  have HRw := hide (show w.heap.size < w2.heap.size ∧ w.heap.size ≠ bc by omega)
  have HBC := hide hbw
  have HBB := hide hbb
  clear hnet hcur hby hkp hA HC HR hbb hsz hs1 hb1 HSZ hbw
  go_wp2_with fail
  generalize v1.alloc (.cells #[.int .i64 pl, .slice a k c] 26) = W3 at N3 C3 B3 K3 V3 ⊢
  generalize v1.heap.size = V at V3 hVb hVR ⊢
  have hV0 : W3.cell? ⟨V, 0, none⟩ = some (.int .i64 pl) := cell_of_row W3 V 0 _ _ _ V3.out
  have hV1 : W3.cell? ⟨V, 1, none⟩ = some (.slice a k c) := cell_of_row W3 V 1 _ _ _ V3.out
  have HLT := hide (show w.heap.size < W3.drew.heap.size from Nat.lt_of_lt_of_le HRw.out.1 K3.out.size)
  have HR3 := hide (show W3.drew.heap[w.heap.size]? = some (.cells #[.int .i64 0, .slice none 0 0] 26 (0, 0)) from (K3.out.block _ HRw.out.1 HRw.out.2).trans HRES.out)
  go_region_held3 (fun W => W.cell? ⟨V, 0, none⟩ = some (.int .i64 pl) ∧ W.cell? ⟨V, 1, none⟩ = some (.slice a k c)) (first | (refine ⟨?_, ?_⟩ <;> simp only [World.cell?_drew] <;> assumption) | (apply keepK2; assumption; assumption; assumption) | (apply keepO2; assumption; assumption; assumption) | (apply keepS2; assumption; assumption))
    (first
      | (go_at_call 71; refine (pick_any 7 bc ca cn cc p1 bs _ ?_ ?_ (by omega) hn (by omega) (by omega)).mono ?_; exact C3.out.below (Below.refl _ W3).drew C3.out.lt; exact B3.out.below (Below.refl _ W3).drew; rintro e v4 ⟨r, rfl, hr, hc4, ho4⟩; have hR4 := (ho4.block _ HRw.out.2).trans HR3.out; have hr0 : v4.cell? ⟨w.heap.size, 0, none⟩ = some (.int .i64 0) := cell_of_row v4 _ 0 _ _ _ hR4; have hr1 : v4.cell? ⟨w.heap.size, 1, none⟩ = some (.slice none 0 0) := cell_of_row v4 _ 1 _ _ _ hR4; have hf0 : v4.frozen? ⟨w.heap.size, 0, none⟩ = false := frozen_of_row v4 _ 0 _ _ hR4; have hf1 : v4.frozen? ⟨w.heap.size, 1, none⟩ = false := frozen_of_row v4 _ 1 _ _ hR4; have HR4 := hide hR4; clear hR4))
  have HE : Hid (TakDr w (.returned (.tuple #[.agg #[.int .i64 pl, .slice a k c], .int .i64 (IntKind.i64.wrap ((r : Int) - 1))])) ((v4.setCell ⟨w.heap.size, 0, none⟩ (.int .i64 pl)).setCell ⟨w.heap.size, 1, none⟩ (.slice a k c))) := by
    have hbw := HBC.out
    have hs3 : w2.heap.size ≤ W3.drew.heap.size := K3.out.size
    have hRw := HRw.out
    have hset : ∀ q, q ≠ w.heap.size → ((v4.setCell ⟨w.heap.size, 0, none⟩ (.int .i64 pl)).setCell ⟨w.heap.size, 1, none⟩ (.slice a k c)).heap[q]? = v4.heap[q]? := fun q hq => (Below.heap_setCell _ _ _ _ hq).trans (Below.heap_setCell _ _ _ _ hq)
    have hszF : v4.heap.size ≤ ((v4.setCell ⟨w.heap.size, 0, none⟩ (.int .i64 pl)).setCell ⟨w.heap.size, 1, none⟩ (.slice a k c)).heap.size := by simp [World.setCell]
    have K34 : Kept bc W3.drew.heap.size W3.drew v4 := Kept.of_only ho4
    have N4 : NetOwn w2.heap.size v4 (.slice a k c) k cells := (N3.out.moved (v' := W3.drew) (Nat.le_refl _) fun q _ _ => rfl).kept K34 (Nat.le_refl _) hbw
    have NF := N4.moved hszF fun q hq _ => hset q (by omega)
    obtain ⟨a', c', L, e', hl, hsl, _⟩ := NF.lists hk5
    obtain ⟨rfl, rfl⟩ : a = a' ∧ c = c' := by simpa using e'
    have e2 : IntKind.i64.wrap ((r : Int) - 1) = (r : Int) - 1 := by rw [IntKind.wrap_i64]; omega
    have hbw2 := HBB.out
    have KF : Kept bc w2.heap.size w2 v4 := (K3.out.trans (⟨rfl, rfl, rfl, Nat.le_refl _, fun _ _ _ => rfl⟩ : Kept bc w2.heap.size W3 W3.drew)).trans (K34.mono hs3)
    refine ⟨pl, a, k, c, L, _, rfl, hpl, ⟨hk1, hk5⟩, hl, hsl, by rw [e2]; omega, ?_⟩
    refine Below.setCell (p := ⟨w.heap.size, 1, none⟩) (Below.setCell (p := ⟨w.heap.size, 0, none⟩) ?_ (Nat.le_refl _) _) (Nat.le_refl _) _
    exact HB.out.trans ((KF.mono HB.out.size).below (by omega))
  clear HR4 ho4 hc4 HLT HR3 hVb hVR HRw HBC HBB hV0 hV1
  go_wp2_with fail
  refine bodyPost_ret (v := .tuple #[.agg #[.int .i64 pl, .slice a k c], .int .i64 (IntKind.i64.wrap ((r : Int) - 1))]) (by simp [results, Try.results16, go_sem, hr0, hr1]) rfl ?_
  exact HE.out
end Go.Proofs.Ytdhnhpjcoeglmaa


/- Whether a net is of free choice: both IsFreeChoices, for every net in memory. -/
namespace Go.Proofs.Ytdhnhpjcoeglmaa
open Go.RowKit

/-- Two transitions that have a place to take from in common, and not all. -/
def clashB (L : List (List Int)) (i j : Nat) : Bool := meetB (L.getD (3 * i) []) (L.getD (3 * j) []) && !sameB (L.getD (3 * i) []) (L.getD (3 * j) [])

def freeB (n : Nat) (L : List (List Int)) : Bool := (List.range n).all fun i => (List.range n).all fun j => !clashB L i j

theorem netOk_n {p : Int} {n : Nat} {L : List (List Int)} (h : netOk p n L = true) : n ≤ 24 := by
  unfold netOk at h; simp at h; exact h.1.2

theorem freeB_no {n i j : Nat} {L : List (List Int)} (hi : i < n) (hj : j < n) (h : clashB L i j = true) : freeB n L = false := by
  unfold freeB
  rw [List.all_eq_false]
  refine ⟨i, by simpa using hi, ?_⟩
  simp only [Bool.not_eq_true]
  rw [List.all_eq_false]
  exact ⟨j, by simpa using hj, by simp [h]⟩

theorem ret_two {a b c d : Bool} (h : a = b) (hb : c = d) : Ending.returned (.tuple #[.bool a, .bool c]) = .returned (.tuple #[.bool b, .bool d]) := by rw [h, hb]

set_option maxHeartbeats 4000000 in
theorem freeS_any (p : Int) (a : Option Addr) (n c : Nat) (L : List (List Int)) (w : World) (h : Lists w a (3 * n) L) (hs : sizeN n L ≤ 1048576) :
    Calls Try.prog 22 #[.agg #[.int .i64 p, .slice a n c]] w fun e w' => e = .returned (.tuple #[.bool (netOk p n L && freeB n L), .bool (netOk p n L)]) ∧ Below w.heap.size w w' := by
  have HL := hide (h.below (below_al w (.cells #[.int .i64 p, .slice a n c] 26)))
  have HG := hide (goodNetS_any p a n c L _ HL.out hs)
  clear h
  go_enter Try.func22, Try.ntmps22
  by_cases hg : netOk p n L = true
  rotate_left
  · have hg' : netOk p n L = false := by simpa using hg
    rw [hg'] at HG ⊢
    clear hg hg'
    go_wp2_with (go_at_call 65; refine HG.out.mono ?_; rintro e w2 ⟨rfl, hb⟩)
    go_ret2
    exact ⟨rfl, (below_al _ _).trans (hb.mono (by simp))⟩
  rw [hg] at HG ⊢
  have HGG := hide hg
  clear hg
  go_wp2_with fail
  refine HG.out.mono ?_
  rintro e w2 ⟨rfl, hb⟩
  have PAR := hide (keep (heap_alloc_new w (.cells #[.int .i64 p, .slice a n c] 26)) hb)
  have HB := hide ((below_al w (.cells #[.int .i64 p, .slice a n c] 26)).trans (hb.mono (by simp)))
  have HL2 := hide (HL.out.below hb)
  clear HL HG hb
  obtain ⟨hc0, hc1⟩ := cells2 PAR.out
  go_wp2_with fail
  clear hc0 hc1
  have hn24 : n ≤ 24 := netOk_n HGG.out
  have hs' : n + sizeL L ≤ 1048576 := hs
  go_loopw [14] (fun i wr => ∃ k : Nat, k ≤ n ∧ i = .int .i64 k ∧ Hid ((List.range k).all (fun i => (List.range n).all fun j => !clashB L i j) = true) ∧ Hid (Below w2.heap.size w2 wr)) (fun i _ => n - (intOf i).toNat)
  case atStart => exact ⟨0, Nat.zero_le _, rfl, rfl, Below.refl _ _⟩
  case round =>
    obtain ⟨k, hk, rfl, hu, hbw⟩ := hrel
    by_cases hlt : k < n
    rotate_left
    · have hk' : k = n := by omega
      subst hk'
      have HF : Hid (freeB k L = true) := hu.out
      have HBB := hide (HB.out.trans (hbw.out.mono HB.out.size))
      go_wp2_with fail
      go_ret2
      exact ⟨ret_two (by rw [HF.out]; rfl) rfl, HBB.out⟩
    obtain ⟨b, off, a0, n0, c0, a1, n1, c1, a2, n2, c2, rfl, hb, hr, m0, m1, m2, r0, r1, r2⟩ := (HL2.out.below hbw.out).tri hlt
    obtain ⟨hc0, hc1, hc2⟩ := rangeAt_cells3 hr
    obtain ⟨x0, hx0⟩ : ∃ x, Hid (L.getD (3 * k) [] = x) := ⟨_, rfl⟩
    have hl0 := len_le L (3 * k)
    rw [hx0.out] at r0 hl0
    have q0 : n0 ≤ 1048576 := by have := r0.1; omega
    have PW := hide (keep PAR.out hbw.out)
    obtain ⟨hp0, hp1⟩ := cells2 PW.out
    have hpl := row_lt PW.out
    clear hr r1 r2 m0 m1 m2 hl0
    go_wp2_with fail
    have hAl := below_al wr (.cells #[.slice a0 n0 c0, .slice a1 n1 c1, .slice a2 n2 c2] 78)
    have HV := hide (heap_alloc_new wr (.cells #[.slice a0 n0 c0, .slice a1 n1 c1, .slice a2 n2 c2] 78))
    have HR0 := hide (r0.below hAl)
    have HB1 := hide (hbw.out.trans (hAl.mono hbw.out.size))
    clear hc0 hc1 hc2 hp0 hp1 r0 hAl PW
    generalize wr.alloc (.cells #[.slice a0 n0 c0, .slice a1 n1 c1, .slice a2 n2 c2] 78) = v at *
    generalize wr.heap.size = bv at *
    go_loopw [21] (fun i wr => ∃ m : Nat, m ≤ n ∧ i = .int .i64 m ∧ Hid ((List.range m).all (fun j => !clashB L k j) = true) ∧ Hid (Below v.heap.size v wr)) (fun i _ => n - (intOf i).toNat)
    case atStart => exact ⟨0, Nat.zero_le _, rfl, rfl, Below.refl _ _⟩
    case round =>
      obtain ⟨m, hm, rfl, hu2, hbw2⟩ := hrel
      have HB2 := hide (HB1.out.trans (hbw2.out.mono HB1.out.size))
      by_cases hlm : m < n
      rotate_left
      · have hm' : m = n := by omega
        subst hm'
        have HU := hide (all_range_succ (f := fun i => (List.range m).all fun j => !clashB L i j) hu.out hu2.out)
        go_wp2_with fail
        go_roundw
        case rel => exact ⟨k + 1, by omega, by go_num, HU, HB2⟩
        case measure => simp [intOf]; omega
      obtain ⟨b', off', d0, m0, e0, d1, m1, e1, d2, m2, e2, he, hb', hr, _, _, _, s0, s1, s2⟩ := (HL2.out.below HB2.out).tri hlm
      simp only [Option.some.injEq, Addr.mk.injEq] at he
      obtain ⟨rfl, rfl, _⟩ := he
      obtain ⟨hc0, hc1, hc2⟩ := rangeAt_cells3 hr
      obtain ⟨y0, hy0⟩ : ∃ x, Hid (L.getD (3 * m) [] = x) := ⟨_, rfl⟩
      have hl0 := len_le L (3 * m)
      rw [hy0.out] at s0 hl0
      have q0' : m0 ≤ 1048576 := by have := s0.1; omega
      have HV2 := hide (keep HV.out hbw2.out)
      have hv0 := (cell_of_row wr bv 0 _ _ _ HV2.out)
      simp at hv0
      have hvl := row_lt HV2.out
      have hAl := below_al wr (.cells #[.slice d0 m0 e0, .slice d1 m1 e1, .slice d2 m2 e2] 78)
      have R0 := hide ((HR0.out.below hbw2.out).below hAl)
      have S0 := hide (s0.below hAl)
      have HBn := hide (hbw2.out.trans (hAl.mono hbw2.out.size))
      have HBx := hide ((HB.out.trans (HB2.out.mono HB.out.size)).trans (hAl.mono (by have := HB.out.size; have := HB2.out.size; omega)))
      clear hr s0 s1 s2 hl0 hAl
      have HCL : Hid (clashB L k m = (meetB x0 y0 && !sameB x0 y0)) := by show _ = _; unfold clashB; rw [hx0.out, hy0.out]
      by_cases gm : meetB x0 y0 = true
      rotate_left
      · have gm' : meetB x0 y0 = false := by simpa using gm
        have HU : Hid ((List.range (m + 1)).all (fun j => !clashB L k j) = true) := all_range_succ hu2.out (by rw [HCL.out, gm']; rfl)
        clear gm HCL
        go_wp2_with fail
        refine (meet_any _ _ _ _ _ _ x0 y0 _ R0.out S0.out q0 q0').mono ?_
        rintro e w' ⟨rfl, rfl⟩
        go_wp2_with fail
        go_roundw
        case rel => exact ⟨m + 1, by omega, by go_num, HU, HBn⟩
        case measure => simp [intOf]; omega
      by_cases gs : sameB x0 y0 = true
      · have HU : Hid ((List.range (m + 1)).all (fun j => !clashB L k j) = true) := all_range_succ hu2.out (by rw [HCL.out, gs]; simp)
        clear HCL
        go_wp2_with fail
        refine (meet_any _ _ _ _ _ _ x0 y0 _ R0.out S0.out q0 q0').mono ?_
        rintro e w' ⟨rfl, rfl⟩
        go_wp2_with fail
        refine (same_any _ _ _ _ _ _ x0 y0 _ R0.out S0.out q0).mono ?_
        rintro e w' ⟨rfl, q, rfl⟩
        go_wp2_with fail
        go_roundw
        case rel => exact ⟨m + 1, by omega, by go_num, HU, HBn.out.trans ((below_drewN' _ _).mono HBn.out.size)⟩
        case measure => simp [intOf]; omega
      · have gs' : sameB x0 y0 = false := by simpa using gs
        have HF : Hid (freeB n L = false) := freeB_no hlt hlm (by rw [HCL.out, gm, gs']; rfl)
        clear gs HCL
        go_wp2_with fail
        refine (meet_any _ _ _ _ _ _ x0 y0 _ R0.out S0.out q0 q0').mono ?_
        rintro e w' ⟨rfl, rfl⟩
        go_wp2_with fail
        refine (same_any _ _ _ _ _ _ x0 y0 _ R0.out S0.out q0).mono ?_
        rintro e w' ⟨rfl, q, rfl⟩
        go_wp2_with fail
        go_ret2
        exact ⟨ret_two (by rw [HF.out]; rfl) rfl, HBx.out.trans ((below_drewN' _ _).mono HBx.out.size)⟩
end Go.Proofs.Ytdhnhpjcoeglmaa


/- Whether a net is of free choice, by the program. -/
namespace Go.Proofs.Ytdhnhpjcoeglmaa
open Go.RowKit

theorem rise_ext {xs ys : List Int} {lo hi : Int} (hx : riseB xs lo hi = true) (hy : riseB ys lo hi = true) (h : ∀ z, z ∈ xs ↔ z ∈ ys) : xs = ys := by
  induction xs generalizing ys lo with
  | nil =>
    cases ys with
    | nil => rfl
    | cons y r => have := (h y).mpr (by simp); simp at this
  | cons x r ih =>
    cases ys with
    | nil => have := (h x).mp (by simp); simp at this
    | cons y s =>
      simp [riseB] at hx hy
      have hxm := riseB_mem hx.2
      have hym := riseB_mem hy.2
      have e : x = y := by
        have h1 := (h x).mp (by simp)
        have h2 := (h y).mpr (by simp)
        rcases List.mem_cons.mp h1 with e | h1
        · exact e
        · rcases List.mem_cons.mp h2 with e | h2
          · exact e.symm
          · have := hym x h1; have := hxm y h2; omega
      subst e
      congr 1
      refine ih hx.2 hy.2 fun z => ?_
      have hz := h z
      simp only [List.mem_cons] at hz
      constructor
      · intro hm
        rcases hz.mp (.inr hm) with e | hm'
        · have := hxm z hm; omega
        · exact hm'
      · intro hm
        rcases hz.mpr (.inr hm) with e | hm'
        · have := hym z hm; omega
        · exact hm'

theorem same_mask {p : Int} {xs ys : List Int} (hx : riseB xs 0 (p - 1) = true) (hy : riseB ys 0 (p - 1) = true) : sameB xs ys = decide (maskL xs = maskL ys) := by
  have nx := fun z hz => (riseB_mem hx z hz).1
  have ny := fun z hz => (riseB_mem hy z hz).1
  unfold sameB
  congr 1
  apply propext
  constructor
  · intro e; rw [e]
  · intro e
    refine rise_ext hx hy fun z => ?_
    constructor
    · intro hz
      have h0 := nx z hz
      have := maskL_bit xs z.toNat nx
      rw [e, maskL_bit ys z.toNat ny, Int.toNat_of_nonneg h0] at this
      simpa [hz] using this
    · intro hz
      have h0 := ny z hz
      have := maskL_bit ys z.toNat ny
      rw [← e, maskL_bit xs z.toNat nx, Int.toNat_of_nonneg h0] at this
      simpa [hz] using this

theorem meet_mask {p : Int} {xs ys : List Int} (hx : riseB xs 0 (p - 1) = true) (hy : riseB ys 0 (p - 1) = true) : meetB xs ys = !decide (maskL xs &&& maskL ys = 0) := by
  have nx := fun z hz => (riseB_mem hx z hz).1
  have ny := fun z hz => (riseB_mem hy z hz).1
  by_cases h : maskL xs &&& maskL ys = 0
  · simp only [h, decide_true, Bool.not_true]
    unfold meetB
    rw [List.any_eq_false]
    intro z hz
    have h0 := nx z hz
    have hb : (maskL xs &&& maskL ys).testBit z.toNat = false := by rw [h]; exact Nat.zero_testBit _
    rw [Nat.testBit_and, maskL_bit xs _ nx, maskL_bit ys _ ny, Int.toNat_of_nonneg h0] at hb
    unfold hasB
    simpa [hz] using hb
  · simp only [h, decide_false, Bool.not_false]
    obtain ⟨i, hi⟩ := Nat.exists_testBit_of_ne_zero h
    rw [Nat.testBit_and, maskL_bit xs _ nx, maskL_bit ys _ ny] at hi
    simp at hi
    unfold meetB
    rw [List.any_eq_true]
    exact ⟨i, hi.1, by unfold hasB; simpa using hi.2⟩

/-- Whether one step leaves another one its choice. -/
def besideB (s t : Nat) : Bool := decide (s = t) || decide (s &&& t = 0)

theorem clash_beside {p : Int} {L : List (List Int)} {i j : Nat} (hi : triOk p L i = true) (hj : triOk p L j = true) : clashB L i j = !besideB (maskL (L.getD (3 * i) [])) (maskL (L.getD (3 * j) [])) := by
  have h1 : riseB (L.getD (3 * i) []) 0 (p - 1) = true := by unfold triOk at hi; simp only [Bool.and_eq_true] at hi; exact hi.1.1.2
  have h2 : riseB (L.getD (3 * j) []) 0 (p - 1) = true := by unfold triOk at hj; simp only [Bool.and_eq_true] at hj; exact hj.1.1.2
  unfold clashB besideB
  rw [same_mask h1 h2, meet_mask h1 h2]
  cases decide (maskL (L.getD (3 * i) []) = maskL (L.getD (3 * j) [])) <;> cases decide (maskL (L.getD (3 * i) []) &&& maskL (L.getD (3 * j) []) = 0) <;> rfl

theorem beside_comm (s t : Nat) : besideB s t = besideB t s := by
  unfold besideB
  rw [Nat.and_comm, show decide (s = t) = decide (t = s) from by congr 1; exact propext eq_comm]

set_option maxHeartbeats 400000 in
theorem beside_any (s0 s1 s2 t0 t1 t2 : Nat) (w : World) (hs : s0 < 2 ^ 16) (ht : t0 < 2 ^ 16) :
    Calls Try.prog 79 #[.agg #[.int .u16 (s0 : Int), .int .u16 (s1 : Int), .int .u16 (s2 : Int)], .agg #[.int .u16 (t0 : Int), .int .u16 (t1 : Int), .int .u16 (t2 : Int)]] w fun e w' => e = .returned (.bool (besideB s0 t0)) ∧ Below w.heap.size w w' := by
  have hand := and_u16 s0 t0 hs ht
  by_cases h : s0 = t0
  · subst h
    have HB := hide (show besideB s0 s0 = true by unfold besideB; simp)
    have hd : ((s0 : Int) == (s0 : Int)) = true := by simp
    go_enter Try.func79, Try.ntmps79
    go_wp2_with fail
    go_ret
    exact ⟨ret_bool HB.out.symm, below_two _ _ _⟩
  · have hd : ((s0 : Int) == (t0 : Int)) = false := by simp; omega
    by_cases h2 : s0 &&& t0 = 0
    · have HB := hide (show besideB s0 t0 = true by unfold besideB; simp [h2])
      rw [h2] at hand
      go_enter Try.func79, Try.ntmps79
      go_wp2_with fail
      go_ret
      exact ⟨ret_bool HB.out.symm, below_two _ _ _⟩
    · have HB := hide (show besideB s0 t0 = false by unfold besideB; simp [h2, h])
      generalize s0 &&& t0 = st at *
      have hd2 : ((st : Int) == 0) = false := by simp; omega
      go_enter Try.func79, Try.ntmps79
      go_wp2_with fail
      go_ret
      exact ⟨ret_bool HB.out.symm, below_two _ _ _⟩

theorem triOk_of {p : Int} {n i : Nat} {L : List (List Int)} (h : netOk p n L = true) (hi : i < n) : triOk p L i = true := by
  unfold netOk at h
  rw [Bool.and_eq_true] at h
  exact List.all_eq_true.mp h.2 i (by simpa using hi)

theorem netOk_p {p : Int} {n : Nat} {L : List (List Int)} (h : netOk p n L = true) : 1 ≤ p ∧ p ≤ 16 := by
  unfold netOk at h; simp [inB] at h; omega

theorem mask16 {p : Int} {L : List (List Int)} {i : Nat} (h : triOk p L i = true) (hp : 1 ≤ p ∧ p ≤ 16) : maskL (L.getD (3 * i) []) < 2 ^ 16 := by
  refine maskL_lt _ fun x hx => ?_
  have h1 : riseB (L.getD (3 * i) []) 0 (p - 1) = true := by unfold triOk at h; simp only [Bool.and_eq_true] at h; exact h.1.1.2
  have := riseB_mem h1 x hx
  omega

/-- Half of the pairs are enough. -/
theorem free_half {p : Int} {n : Nat} {L : List (List Int)} (h : netOk p n L = true) (hh : (List.range n).all (fun i => (List.range i).all fun j => !clashB L i j) = true) : freeB n L = true := by
  unfold freeB
  rw [List.all_eq_true] at hh ⊢
  intro i hi
  rw [List.all_eq_true]
  intro j hj
  have hi' : i < n := by simpa using hi
  have hj' : j < n := by simpa using hj
  rcases Nat.lt_trichotomy i j with hij | hij | hij
  · have := hh j hj
    rw [List.all_eq_true] at this
    have := this i (by simpa using hij)
    rw [clash_beside (triOk_of h hj') (triOk_of h hi')] at this
    rw [clash_beside (triOk_of h hi') (triOk_of h hj'), beside_comm]; exact this
  · subst hij
    unfold clashB; rw [sameB_self]; simp
  · have := hh i hi
    rw [List.all_eq_true] at this
    exact this j (by simpa using hij)

theorem PartS.at {w : World} {B n k : Nat} {L : List (List Int)} (h : PartS w B (3 * n) (3 * n) L) (hk : k < n) :
    w.cell? ⟨B, k * 3, none⟩ = some (.int .u16 (maskL (L.getD (3 * k) []) : Int)) ∧ w.cell? ⟨B, k * 3 + 1, none⟩ = some (.int .u16 (maskL (L.getD (3 * k + 1) []) : Int)) ∧ w.cell? ⟨B, k * 3 + 2, none⟩ = some (.int .u16 (maskL (L.getD (3 * k + 2) []) : Int)) := by
  obtain ⟨C, h1, h2, h3⟩ := h
  refine ⟨?_, ?_, ?_⟩
  · rw [cell_of_row w B _ C _ _ h1, Nat.mul_comm]; exact h3 _ (by omega)
  · rw [cell_of_row w B _ C _ _ h1, Nat.mul_comm]; exact h3 _ (by omega)
  · rw [cell_of_row w B _ C _ _ h1, Nat.mul_comm]; exact h3 _ (by omega)

set_option maxHeartbeats 4000000 in
theorem freeI_any (p : Int) (a : Option Addr) (n c : Nat) (L : List (List Int)) (w : World) (h : Lists w a (3 * n) L) (hs : sizeN n L ≤ 1048576) :
    Calls Try.prog 21 #[.agg #[.int .i64 p, .slice a n c]] w fun e w' => e = .returned (.tuple #[.bool (netOk p n L && freeB n L), .bool (netOk p n L)]) ∧ Below w.heap.size w w' := by
  have HT := hide (netSteps_any p a n c L (w.alloc (.cells #[.int .i64 p, .slice a n c] 26)) (h.below (below_al _ _)) hs)
  clear h
  by_cases hg : netOk p n L = true
  rotate_left
  · have hg' : netOk p n L = false := by simpa using hg
    rw [hg'] at HT ⊢
    clear hg hg'
    go_enter Try.func21, Try.ntmps21
    go_wp2_with fail
    refine HT.out.mono ?_
    rintro e w2 ⟨p', a', m, c', rfl, hx, hb⟩
    have HB := hide ((below_al w (.cells #[.int .i64 p, .slice a n c] 26)).trans (hb.mono (by simp)))
    clear hb HT hx
    go_wp2_with fail
    go_ret2
    exact ⟨rfl, HB.out.alloc HB.out.size _⟩
  rw [hg] at HT ⊢
  have HG := hide hg
  clear hg
  go_enter Try.func21, Try.ntmps21
  go_wp2_with fail
  refine HT.out.mono ?_
  rintro e w2 ⟨p', a', m, c', rfl, hx, hb⟩
  obtain ⟨e1, e2, e3, B, rfl, hBs, hps⟩ := hx.out rfl
  subst e1 e2 e3
  have HB := hide (((below_al w (.cells #[.int .i64 p', .slice a c' c] 26)).trans (hb.mono (by simp))))
  have hn24 := netOk_n HG.out
  clear hb HT hx hBs
  go_wp2_with fail
  have hAl := below_al w2 (.cells #[.int .i64 p', .slice (some ⟨B, 0, none⟩) c' c'] 82)
  have VAR := hide (heap_alloc_new w2 (.cells #[.int .i64 p', .slice (some ⟨B, 0, none⟩) c' c'] 82))
  have PS := hide (hps.grow hAl)
  have HB1 := hide (HB.out.trans (hAl.mono HB.out.size))
  clear hps hAl HB
  generalize w2.alloc (.cells #[.int .i64 p', .slice (some ⟨B, 0, none⟩) c' c'] 82) = v at *
  generalize w2.heap.size = bv at *
  clear w2
  go_loopw [20] (fun i wr => ∃ k : Nat, k ≤ c' ∧ i = .int .i64 k ∧ Hid ((List.range k).all (fun i => (List.range i).all fun j => !clashB L i j) = true) ∧ Hid (Below v.heap.size v wr)) (fun i _ => c' - (intOf i).toNat)
  case atStart => exact ⟨0, Nat.zero_le _, rfl, rfl, Below.refl _ _⟩
  case round =>
    obtain ⟨k, hk, rfl, hu, hbw⟩ := hrel
    have HBB := hide (HB1.out.trans (hbw.out.mono HB1.out.size))
    by_cases hlt : k < c'
    rotate_left
    · have hk' : k = c' := by omega
      subst hk'
      have HF : Hid (freeB k L = true) := free_half HG.out hu.out
      go_wp2_with fail
      go_ret2
      exact ⟨ret_two (by rw [HF.out]; rfl) rfl, HBB.out⟩
    obtain ⟨hc0, hc1, hc2⟩ := (PS.out.grow hbw.out).at hlt
    obtain ⟨hv0, hv1⟩ := cells2 (keep VAR.out hbw.out)
    have hvl := row_lt (keep VAR.out hbw.out)
    obtain ⟨s0, hs0⟩ : ∃ s, Hid (maskL (L.getD (3 * k) []) = s) := ⟨_, rfl⟩
    obtain ⟨s1, hs1⟩ : ∃ s, Hid (maskL (L.getD (3 * k + 1) []) = s) := ⟨_, rfl⟩
    obtain ⟨s2, hs2⟩ : ∃ s, Hid (maskL (L.getD (3 * k + 2) []) = s) := ⟨_, rfl⟩
    rw [hs0.out] at hc0
    rw [hs1.out] at hc1
    rw [hs2.out] at hc2
    go_wp2_with fail
    have hAl := below_al wr (.cells #[.int .u16 (s0 : Int), .int .u16 (s1 : Int), .int .u16 (s2 : Int)] 88)
    have HV := hide (heap_alloc_new wr (.cells #[.int .u16 (s0 : Int), .int .u16 (s1 : Int), .int .u16 (s2 : Int)] 88))
    have HB2 := hide (hbw.out.trans (hAl.mono hbw.out.size))
    clear hc0 hc1 hc2 hv0 hv1 hvl hAl hbw HBB
    generalize wr.alloc (.cells #[.int .u16 (s0 : Int), .int .u16 (s1 : Int), .int .u16 (s2 : Int)] 88) = v2 at *
    generalize wr.heap.size = bs at *
    have hlo : s0 < 2 ^ 16 := by rw [← hs0.out]; exact mask16 (triOk_of HG.out hlt) (netOk_p HG.out)
    go_loopw [30] (fun i wr => ∃ m : Nat, m ≤ k ∧ i = .int .i64 m ∧ Hid ((List.range m).all (fun j => !clashB L k j) = true) ∧ Hid (Below v2.heap.size v2 wr)) (fun i _ => k - (intOf i).toNat)
    case atStart => exact ⟨0, Nat.zero_le _, rfl, rfl, Below.refl _ _⟩
    case round =>
      obtain ⟨m, hm, rfl, hu2, hbw⟩ := hrel
      have HB3 := hide (HB2.out.trans (hbw.out.mono HB2.out.size))
      by_cases hlm : m < k
      rotate_left
      · have hm' : m = k := by omega
        subst hm'
        have HU := hide (all_range_succ (f := fun i => (List.range i).all fun j => !clashB L i j) hu.out hu2.out)
        go_wp2_with fail
        go_roundw
        case rel => exact ⟨m + 1, by omega, by go_num, HU, HB3⟩
        case measure => simp [intOf]; omega
      obtain ⟨hc0, hc1, hc2⟩ := (PS.out.grow HB3.out).at (show m < c' by omega)
      have hv := keep HV.out hbw.out
      have hvl := row_lt hv
      have hv0 := cell_of_row wr bs 0 _ _ _ hv
      have hv1 := cell_of_row wr bs 1 _ _ _ hv
      have hv2 := cell_of_row wr bs 2 _ _ _ hv
      simp at hv0 hv1 hv2
      obtain ⟨t0, ht0⟩ : ∃ s, Hid (maskL (L.getD (3 * m) []) = s) := ⟨_, rfl⟩
      obtain ⟨t1, ht1⟩ : ∃ s, Hid (maskL (L.getD (3 * m + 1) []) = s) := ⟨_, rfl⟩
      obtain ⟨t2, ht2⟩ : ∃ s, Hid (maskL (L.getD (3 * m + 2) []) = s) := ⟨_, rfl⟩
      rw [ht0.out] at hc0
      rw [ht1.out] at hc1
      rw [ht2.out] at hc2
      have hlo2 : t0 < 2 ^ 16 := by rw [← ht0.out]; exact mask16 (triOk_of HG.out (show m < c' by omega)) (netOk_p HG.out)
      have HCL : Hid (clashB L k m = !besideB s0 t0) := by show _ = _; rw [clash_beside (triOk_of HG.out hlt) (triOk_of HG.out (show m < c' by omega)), hs0.out, ht0.out]
      have hAl := below_al wr (.cells #[.int .u16 (t0 : Int), .int .u16 (t1 : Int), .int .u16 (t2 : Int)] 88)
      have HT := hide (beside_any s0 s1 s2 t0 t1 t2 (wr.alloc (.cells #[.int .u16 (t0 : Int), .int .u16 (t1 : Int), .int .u16 (t2 : Int)] 88)) hlo hlo2)
      have HA := hide (hbw.out.trans (hAl.mono hbw.out.size))
      clear hv hAl
      by_cases gb : besideB s0 t0 = true
      · have HU : Hid ((List.range (m + 1)).all (fun j => !clashB L k j) = true) := all_range_succ hu2.out (by rw [HCL.out, gb]; rfl)
        rw [gb] at HT
        clear gb HCL
        go_wp2_with fail
        refine HT.out.mono ?_
        rintro e w3 ⟨rfl, hb⟩
        have HZ := hide (HA.out.trans (hb.mono HA.out.size))
        clear HT hb HA hc0 hc1 hc2 hv0 hv1 hv2
        go_wp2_with fail
        go_roundw
        case rel => exact ⟨m + 1, by omega, by go_num, HU, HZ⟩
        case measure => simp [intOf]; omega
      · have gb' : besideB s0 t0 = false := by simpa using gb
        have HF : Hid (freeB c' L = false) := freeB_no hlt (show m < c' by omega) (by rw [HCL.out, gb']; rfl)
        rw [gb'] at HT
        clear gb gb' HCL
        go_wp2_with fail
        refine HT.out.mono ?_
        rintro e w3 ⟨rfl, hb⟩
        have HZ := hide (HB1.out.trans ((HB2.out.trans ((HA.out.trans (hb.mono HA.out.size)).mono HB2.out.size)).mono HB1.out.size))
        clear HT hb HA hc0 hc1 hc2 hv0 hv1 hv2
        go_wp2_with fail
        go_ret2
        exact ⟨ret_two (by rw [HF.out]; rfl) rfl, HZ.out⟩
end Go.Proofs.Ytdhnhpjcoeglmaa


/- What a law over several nets keeps in mind; TurnNet of both over nets that are merely read. -/
namespace Go.Proofs.Ytdhnhpjcoeglmaa
open Go.RowKit
set_option maxRecDepth 10000

structure Nst (w v : World) (nets : List (Nat × Int × Option Addr × Nat × Nat × List (List Int))) (rows : List (Option Addr × Nat × List Int)) (ma : Option Addr) (mn : Nat) (cs : List Int) : Prop where
  old : Below w.heap.size w v
  nets : ∀ t ∈ nets, v.heap[t.1]? = some (.cells #[.int .i64 t.2.1, .slice t.2.2.1 t.2.2.2.1 t.2.2.2.2.1] 26 (0, 0)) ∧ Lists v t.2.2.1 (3 * t.2.2.2.1) t.2.2.2.2.2
  rows : Rs v rows
  more : RowB v ma mn cs

section
variable {w v v' : World} {nets : List (Nat × Int × Option Addr × Nat × Nat × List (List Int))} {rows : List (Option Addr × Nat × List Int)} {ma : Option Addr} {mn : Nat} {cs : List Int}

theorem Nst.grow (h : Nst w v nets rows ma mn cs) (hb : Below v.heap.size v v') : Nst w v' nets rows ma mn cs :=
  ⟨h.old.trans (hb.mono h.old.size), fun t ht => ⟨keep (h.nets t ht).1 hb, (h.nets t ht).2.below hb⟩, h.rows.below hb, h.more.below hb⟩

theorem Nst.add (h : Nst w v nets rows ma mn cs) {b : Option Addr} {n : Nat} {xs : List Int} (hr : Row v b n xs) : Nst w v nets ((b, n, xs) :: rows) ma mn cs := ⟨h.old, h.nets, Rs.cons hr h.rows, h.more⟩

/-- A net more, in a variable of its own. -/
theorem Nst.net (h : Nst w v nets rows ma mn cs) (pl : Int) {a : Option Addr} {k : Nat} (c : Nat) {L : List (List Int)} (hl : Lists v a (3 * k) L) : Nst w (v.alloc (.cells #[.int .i64 pl, .slice a k c] 26)) ((v.heap.size, pl, a, k, c, L) :: nets) rows ma mn cs := by
  have hA := below_al v (.cells #[.int .i64 pl, .slice a k c] 26)
  have h' := h.grow hA
  refine ⟨h'.old, fun t ht => ?_, h'.rows, h'.more⟩
  rcases List.mem_cons.mp ht with rfl | ht
  · exact ⟨heap_alloc_new _ _, hl.below hA⟩
  · exact h'.nets t ht

theorem Nst.at (h : Nst w v nets rows ma mn cs) (V : Nat) (pl : Int) (a : Option Addr) (k c : Nat) (L : List (List Int)) (hm : (V, pl, a, k, c, L) ∈ nets) : (v.cell? ⟨V, 0, none⟩ = some (.int .i64 pl) ∧ v.cell? ⟨V, 1, none⟩ = some (.slice a k c)) ∧ Lists v a (3 * k) L := by
  obtain ⟨h1, h2⟩ := h.nets _ hm
  exact ⟨cells2 h1, h2⟩
end

/-- Both answer the same net, good or the zero one. -/
theorem turn_pack2 (p : Int) (n : Nat) (L : List (List Int)) (hs : sizeN n L ≤ 1048576) : ∃ (g : Bool) (P : Int) (N : Nat) (K : List (List Int)), Hid (K.length = 3 * N ∧ sizeN N K ≤ 1048576) ∧ Hid (g = true → P = p ∧ N = n ∧ K = turnL n L ∧ turnOk p n L = true) ∧
    Hid (∀ (a : Option Addr) (c : Nat) (w : World), Lists w a (3 * n) L → Calls Try.prog 11 #[.agg #[.int .i64 p, .slice a n c]] w fun e w' => ∃ a c, e = .returned (.tuple #[.agg #[.int .i64 P, .slice a N c], .bool g]) ∧ Lists w' a (3 * N) K ∧ Below w.heap.size w w') ∧
    Hid (∀ (a : Option Addr) (c : Nat) (w : World), Lists w a (3 * n) L → Calls Try.prog 10 #[.agg #[.int .i64 p, .slice a n c]] w fun e w' => ∃ a c, e = .returned (.tuple #[.agg #[.int .i64 P, .slice a N c], .bool g]) ∧ Lists w' a (3 * N) K ∧ Below w.heap.size w w') := by
  cases hg : turnOk p n L
  · refine ⟨false, 0, 0, [], ⟨rfl, by decide⟩, fun h => by simp at h, fun a c w hl => ?_, fun a c w hl => ?_⟩
    · refine (turnS2_any p a n c L w hl hs).mono ?_
      rw [hg]
      rintro e w' ⟨a', c', rfl, _, hb⟩
      exact ⟨a', c', rfl, ⟨rfl, .inl rfl⟩, hb⟩
    · refine (turnI_any p a n c L w hl hs).mono ?_
      rw [hg]
      rintro e w' ⟨a', B', lo, hi, c', rfl, _, h3, h1, h2, hb⟩
      exact ⟨a', c', rfl, ⟨rfl, .inl rfl⟩, hb⟩
  · have hz := turnL_size (turn_parts hg).1
    refine ⟨true, p, n, turnL n L, ⟨turnL_len n L, hz⟩, fun _ => ⟨rfl, rfl, rfl, rfl⟩, fun a c w hl => ?_, fun a c w hl => ?_⟩
    · refine (turnS2_any p a n c L w hl hs).mono ?_
      rw [hg]
      rintro e w' ⟨a', c', rfl, h1, hb⟩
      exact ⟨a', c', rfl, h1 rfl, hb⟩
    · refine (turnI_any p a n c L w hl hs).mono ?_
      rw [hg]
      rintro e w' ⟨a', B', lo, hi, c', rfl, h0, h3, h1, h2, hb⟩
      exact ⟨a', c', rfl, by have := h0 rfl; rw [← turnL_get] at this; exact this.lists (turnL_len n L) hz, hb⟩

/-- A turned net is turned back. -/
theorem turnBack_any (p : Int) (a : Option Addr) (n c : Nat) (L : List (List Int)) (w : World) (hg : turnOk p n L = true) (hlen : L.length = 3 * n) (hs : sizeN n L ≤ 1048576) (hl : Lists w a (3 * n) (turnL n L)) :
    Calls Try.prog 10 #[.agg #[.int .i64 p, .slice a n c]] w fun e w' => ∃ a' c', e = .returned (.tuple #[.agg #[.int .i64 p, .slice a' n c'], .bool true]) ∧ Lists w' a' (3 * n) L ∧ Below w.heap.size w w' := by
  refine (turnI_any p a n c (turnL n L) w hl (turnL_size (turn_parts hg).1)).mono ?_
  rw [turn_back hg hlen]
  rintro e w' ⟨a', B', lo, hi, c', rfl, h0, h3, h1, h2, hb⟩
  refine ⟨a', c', rfl, ?_, hb⟩
  have := h0 rfl
  rw [← turnL_get, turn_turn hg hlen] at this
  exact this.lists hlen hs

theorem atR_len (f : Nat → Bool) (p : Int) (n : Nat) (L : List (List Int)) (t : Int) : (atR f p n L t).length ≤ n := by
  unfold atR; split
  · exact numsL_len _ _
  · exact Nat.zero_le _

theorem fireR_len (p : Int) (n : Nat) (L : List (List Int)) (ys : List Int) (t : Int) : (fireR p n L ys t).length ≤ ys.length := by
  unfold fireR; split
  · unfold firedL; rw [fireL_len]; exact Nat.le_refl _
  · exact Nat.zero_le _
end Go.Proofs.Ytdhnhpjcoeglmaa
