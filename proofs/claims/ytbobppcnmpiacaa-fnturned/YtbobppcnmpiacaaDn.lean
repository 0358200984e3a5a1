/- DrawTurnNet: a drawn net without resets, its lists in new memory; nothing that was there is written. -/
import Derived.Test.YtbobppcnmpiacaaDf
namespace Go.Proofs.Ytbobppcnmpiacaa
open Go.RowKit
set_option maxRecDepth 10000

structure DnSt (w v : World) (D : Nat) (bc : Nat) (ca : Option Addr) (cn cc p : Nat) (bs : List Int) (V : Nat) (pl : Int) (g k cp : Nat) (cells : List Value) : Prop where
  net : NetOwn D v (.slice (some ⟨g, 0, none⟩) k cp) k cells
  var : v.heap[V]? = some (.cells #[.int .i64 pl, .slice (some ⟨g, 0, none⟩) k cp] 26 (0, 0))
  res : v.heap[w.heap.size]? = some (.cells #[.int .i64 0, .slice none 0 0] 26 (0, 0))
  cur : Cur v bc ca cn cc p
  bytes : RowB v ca cn bs
  bel : Below w.heap.size w v

section
variable {w v v' : World} {D bc : Nat} {ca : Option Addr} {cn cc p p' : Nat} {bs : List Int} {V : Nat} {pl : Int} {g k cp : Nat} {cells : List Value}

theorem DnSt.step (h : DnSt w v D bc ca cn cc p bs V pl g k cp cells) (hk : Kept bc v.heap.size v v') (hc : Cur v' bc ca cn cc p') (hr : RowB v' ca cn bs) (h1 : bc < D) (h2 : w.heap.size < bc) (h3 : V ≠ bc) : DnSt w v' D bc ca cn cc p' bs V pl g k cp cells :=
  ⟨h.net.kept hk (Nat.le_refl _) h1, (hk.block V (row_lt h.var) h3).trans h.var, (hk.block _ (row_lt h.res) (by omega)).trans h.res, hc, hr, h.bel.trans ((hk.mono h.bel.size).below (by omega))⟩

theorem DnSt.only (h : DnSt w v D bc ca cn cc p bs V pl g k cp cells) (ho : OnlyC bc v v') (hc : Cur v' bc ca cn cc p') (hap : Apart ca cn bc) (h1 : bc < D) (h2 : w.heap.size < bc) (h3 : V ≠ bc) : DnSt w v' D bc ca cn cc p' bs V pl g k cp cells :=
  h.step (Kept.of_only ho) hc (h.bytes.keep ho hap) h1 h2 h3

theorem DnSt.alloc (h : DnSt w v D bc ca cn cc p bs V pl g k cp cells) (ob : Obj) (h1 : bc < D) (h2 : w.heap.size < bc) (h3 : V ≠ bc) : DnSt w (v.alloc ob) D bc ca cn cc p bs V pl g k cp cells := by
  have hb := below_al v ob
  exact h.step (Kept.of_below hb) (h.cur.below hb h.cur.lt) (h.bytes.below hb) h1 h2 h3

theorem DnSt.set (h : DnSt w v D bc ca cn cc p bs V pl g k cp cells) {j n c : Nat} {a : Option Addr} {xs : List Int} (hj : j < 3 * k) (hn : NewL D v a n c xs) (hn2 : n ≤ 2) (hd : ∀ o, a = some o → o.block ≠ g) (h1 : bc < D) (h2 : w.heap.size < bc) (h3 : V ≠ g) (h4 : D ≤ g) (hfar : 0 < cn → ∀ y, ca = some y → y.block < w.heap.size) :
    DnSt w (v.setCell ⟨g, j, none⟩ (.slice a n c)) D bc ca cn cc p bs V pl g k cp (cells.set j (.slice a n c)) := by
  have hset : ∀ q, q ≠ g → (v.setCell ⟨g, j, none⟩ (.slice a n c)).heap[q]? = v.heap[q]? := fun q hq => Below.heap_setCell _ _ _ _ hq
  have hsz : (v.setCell ⟨g, j, none⟩ (.slice a n c)).heap.size = v.heap.size := by simp [World.setCell]
  obtain ⟨s, hs⟩ := h.cur
  refine ⟨h.net.set hj hn hn2 hd, (hset V h3).trans h.var, (hset _ (by omega)).trans h.res, ⟨s, (hset bc (by omega)).trans hs⟩, ⟨h.bytes.1, h.bytes.2.1, ?_⟩, h.bel.setCell (p := ⟨g, j, none⟩) (show _ ≤ g by omega) _⟩
  rcases h.bytes.2.2 with h0 | ⟨b, off, e, hl, hc⟩
  · exact .inl h0
  · by_cases h0 : cn = 0
    · exact .inl h0
    · have hb : b < w.heap.size := hfar (by omega) _ e
      exact .inr ⟨b, off, e, by rw [hsz]; exact hl, fun i hi => (World.cell?_of_block (hset b (by omega))).trans (hc i hi)⟩
end

/-- How it ends. -/
def DnEnd (w : World) (e : Ending) (w' : World) : Prop :=
  ∃ (pl : Int) (a : Option Addr) (k c : Nat) (L : List (List Int)), e = .returned (.agg #[.int .i64 pl, .slice a k c]) ∧ (0 ≤ pl ∧ pl ≤ 17) ∧ (1 ≤ k ∧ k ≤ 5) ∧ Lists w' a (3 * k) L ∧ sizeN k L ≤ 35 ∧ Below w.heap.size w w'

theorem DnSt.done {w v : World} {D bc : Nat} {ca : Option Addr} {cn cc p : Nat} {bs : List Int} {V : Nat} {pl : Int} {g k cp : Nat} {cells : List Value} (h : DnSt w v D bc ca cn cc p bs V pl g k cp cells) (hpl : 0 ≤ pl ∧ pl ≤ 17) (hk : 1 ≤ k ∧ k ≤ 5) (hD : w.heap.size < D) (x y : Value) :
    DnEnd w (.returned (.agg #[.int .i64 pl, .slice (some ⟨g, 0, none⟩) k cp])) ((v.setCell ⟨w.heap.size, 0, none⟩ x).setCell ⟨w.heap.size, 1, none⟩ y) := by
  have hset : ∀ q, q ≠ w.heap.size → ((v.setCell ⟨w.heap.size, 0, none⟩ x).setCell ⟨w.heap.size, 1, none⟩ y).heap[q]? = v.heap[q]? := fun q hq => (Below.heap_setCell _ _ _ _ hq).trans (Below.heap_setCell _ _ _ _ hq)
  have hsz : v.heap.size ≤ ((v.setCell ⟨w.heap.size, 0, none⟩ x).setCell ⟨w.heap.size, 1, none⟩ y).heap.size := by simp [World.setCell]
  obtain ⟨a', c', L, e', hl, hsl, _⟩ := (h.net.moved hsz fun q hq _ => hset q (by omega)).lists hk.2
  simp only [Value.slice.injEq] at e'
  obtain ⟨rfl, _, rfl⟩ := e'
  exact ⟨pl, _, k, cp, L, rfl, hpl, hk, hl, hsl, Below.setCell (p := ⟨w.heap.size, 1, none⟩) (Below.setCell (p := ⟨w.heap.size, 0, none⟩) h.bel (Nat.le_refl _) _) (Nat.le_refl _) _⟩

set_option maxHeartbeats 2000000 in
theorem drawTurn_any (ca : Option Addr) (cn cc : Nat) (bs : List Int) (w : World) (hr : RowB w ca cn bs) (hn : cn ≤ 1048576) :
    Calls Try.prog 19 #[.slice ca cn cc] w fun e w' => DnEnd w e w' := by
  have hA := below_al w (.cells #[.int .i64 0, .slice none 0 0] 26)
  have hA2 := below_al (w.alloc (.cells #[.int .i64 0, .slice none 0 0] 26)) (.cells #[.slice ca cn cc, .int .i64 0, .int .u64 0] 57)
  have HB := hide (hA.trans (hA2.mono hA.size))
  have HR := hide (hr.below HB.out)
  have HF := hide (fun h0 y hy => hr.far h0 y hy)
  have HAP : Hid (Apart ca cn (w.heap.size + 1)) := fun h0 y hy => by have := hr.far h0 y hy; omega
  have HC : Hid (Cur ((w.alloc (.cells #[.int .i64 0, .slice none 0 0] 26)).alloc (.cells #[.slice ca cn cc, .int .i64 0, .int .u64 0] 57)) (w.heap.size + 1) ca cn cc 0) := ⟨0, by have := heap_alloc_new (w.alloc (.cells #[.int .i64 0, .slice none 0 0] 26)) (.cells #[.slice ca cn cc, .int .i64 0, .int .u64 0] 57); simpa using this⟩
  have HRES : Hid (((w.alloc (.cells #[.int .i64 0, .slice none 0 0] 26)).alloc (.cells #[.slice ca cn cc, .int .i64 0, .int .u64 0] 57)).heap[w.heap.size]? = some (.cells #[.int .i64 0, .slice none 0 0] 26 (0, 0))) := by
    show ((w.alloc _).alloc _).heap[w.heap.size]? = _
    rw [hA2.block _ (by simp)]; exact heap_alloc_new _ _
  have HSZ : Hid (((w.alloc (.cells #[.int .i64 0, .slice none 0 0] 26)).alloc (.cells #[.slice ca cn cc, .int .i64 0, .int .u64 0] 57)).heap.size = w.heap.size + 2) := by show _ = _; simp
  clear hr hA hA2
  go_enter Try.func19, Try.ntmps19
  go_wp2_with fail
  generalize (w.alloc (.cells #[.int .i64 0, .slice none 0 0] 26)).alloc (.cells #[.slice ca cn cc, .int .i64 0, .int .u64 0] 57) = w2 at HB HR HC HRES HSZ ⊢
  generalize hbb : w.heap.size + 1 = bc at HAP HC ⊢
  refine (net_draw false bc ca cn cc 0 bs _ HC.out HR.out HAP.out (by omega) hn).mono ?_
  rintro e v1 ⟨pl, u, k, cells, p1, rfl, hpl, hk1, hk5, hp1, hnet, hcur, hby, hkp⟩
  obtain ⟨g, cp, rfl, hgD, hgl, _⟩ := hnet.form hk1
  have hsz := HSZ.out
  have hs1 := hkp.size
  have hA := below_al v1 (.cells #[.int .i64 pl, .slice (some ⟨g, 0, none⟩) k cp] 26)
  have S1 : Hid (DnSt w (v1.alloc (.cells #[.int .i64 pl, .slice (some ⟨g, 0, none⟩) k cp] 26)) w2.heap.size bc ca cn cc p1 bs v1.heap.size pl g k cp cells) :=
    ⟨hnet.moved hA.size fun q _ hq => hA.block q hq, heap_alloc_new _ _, (hA.block _ (by omega)).trans ((hkp.block _ (by omega) (by omega)).trans HRES.out), hcur.below hA hcur.lt, hby.below hA, (HB.out.trans ((hkp.mono HB.out.size).below (by omega))).trans (hA.mono (by have := HB.out.size; omega))⟩
  have hVg : v1.heap.size ≠ g := by omega
  have hVb : v1.heap.size ≠ bc := by omega
  have hD1 : bc < w2.heap.size := by omega
  have hD2 : w.heap.size < bc := by omega
  have hDw : w.heap.size < w2.heap.size := by omega
  clear hnet hcur hby hkp hA HC HR HRES HB HSZ hsz hs1 hbb hgl
  go_wp2_with fail
  generalize v1.alloc (.cells #[.int .i64 pl, .slice (some ⟨g, 0, none⟩) k cp] 26) = W3 at S1 ⊢
  generalize v1.heap.size = V at S1 hVg hVb ⊢
  generalize w2.heap.size = D at *
  go_loopw [14] (fun i wr => ∃ (j p' : Nat) (cells : List Value), j ≤ k ∧ i = .int .i64 j ∧ p' ≤ p1 + j ∧ Hid (DnSt w wr D bc ca cn cc p' bs V pl g k cp cells)) (fun i _ => k - (intOf i).toNat)
  case atStart => exact ⟨0, p1, cells, Nat.zero_le _, rfl, by omega, S1⟩
  case round =>
    obtain ⟨j, p', cells, hj, rfl, hp', st⟩ := hrel
    clear S1
    obtain ⟨hv0, hv1⟩ := cells2 st.out.var
    have hlV := row_lt st.out.var
    by_cases hlt : j < k
    · obtain ⟨g', cp', e', _, hgl, hcel⟩ := st.out.net.form hk1
      simp only [Value.slice.injEq, Option.some.injEq, Addr.mk.injEq] at e'
      obtain ⟨⟨rfl, _⟩, _, rfl⟩ := e'
      obtain ⟨a, n, c, xs, ez, hn2, _, _⟩ := st.out.net.tris (3 * j + 1) (by omega)
      obtain ⟨⟨z, hz, hz2⟩, hzf⟩ := hcel (3 * j + 1) (by omega)
      obtain rfl : z = .slice a n c := by rw [ez] at hz2; exact (Option.some.inj hz2).symm
      rw [show 3 * j + 1 = j * 3 + 1 by omega] at hz hzf
      clear hcel hz2 ez
      by_cases hn0 : n = 0
      · subst hn0
        have HO := hide (one_any 4 bc ca cn cc p' bs wr st.out.cur st.out.bytes (by omega) hn (by omega) (by omega))
        go_wp2_with fail
        refine HO.out.mono ?_
        rintro e v3 ⟨b, rfl, hcur, ho⟩
        have S2 := hide (st.out.only ho hcur HAP.out hD1 hD2 hVb)
        have hvg := ho.block g (by omega)
        clear hcur HO
        cases b
        · have hz3 : v3.cell? ⟨g, j * 3 + 1, none⟩ = some (.slice a 0 c) := (World.cell?_of_block hvg).trans hz
          have hzf3 : v3.frozen? ⟨g, j * 3 + 1, none⟩ = false := (World.frozen?_of_block hvg).trans hzf
          obtain ⟨hw0, hw1⟩ := cells2 S2.out.var
          have hglt : g < v3.heap.size := by rw [ho.size]; exact hgl
          have S3 := hide ((S2.out.alloc (.cells #[.int .i64 0] 3) hD1 hD2 hVb).set (j := j * 3 + 1) (a := some ⟨v3.heap.size, 0, none⟩) (n := 1) (c := 1) (xs := [0]) (by omega) (.inr ⟨v3.heap.size, rfl, by omega, by omega, by omega, by unfold maxLen; omega, row_new v3 [0] 1 _ rfl rfl⟩) (by omega) (fun o ho => by obtain rfl := Option.some.inj ho; simp; omega) hD1 hD2 hVg hgD HF.out)
          rw [World.setCell_alloc_past _ _ _ _ hglt] at S3
          clear hz hzf hv0 hv1 st ho hvg
          go_wp2_with fail
          exact ⟨⟨j + 1, p' + 1, _, by omega, by go_num, by omega, S3⟩, by simp [intOf]; omega⟩
        · have hlt3 := ho.size
          clear hz hzf hv0 hv1 st ho hvg
          go_wp2_with fail
          go_roundw
          case rel => exact ⟨j + 1, p' + 1, cells, by omega, by go_num, by omega, S2⟩
          case measure => simp [intOf]; omega
      · have hni : ((n : Int) == 0) = false := by simp; omega
        have hnd : decide ((n : Int) = 0) = false := by simp; omega
        go_wp2_with fail
        go_roundw
        case rel => exact ⟨j + 1, p', cells, by omega, by go_num, by omega, st⟩
        case measure => simp [intOf]; omega
    · have hj' : j = k := by omega
      subst hj'
      obtain ⟨hr0, hr1⟩ := cells2 st.out.res
      have hf0 : wr.frozen? ⟨w.heap.size, 0, none⟩ = false := frozen_of_row wr _ 0 _ _ st.out.res
      have hf1 : wr.frozen? ⟨w.heap.size, 1, none⟩ = false := frozen_of_row wr _ 1 _ _ st.out.res
      go_wp2_with fail
      refine bodyPost_ret (v := .agg #[.int .i64 pl, .slice (some ⟨g, 0, none⟩) j cp]) (by simp [results, Try.results19, go_sem, hr0, hr1]) rfl ?_
      exact st.out.done hpl (by omega) hDw _ _
end Go.Proofs.Ytbobppcnmpiacaa
