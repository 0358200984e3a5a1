/- DrawFireAll: a net and two lists, whatever the bytes; nothing that was there is written. -/
import Derived.Test.YtbobppcnmpiacaaDf
import Derived.Test.YtbobppcnmpiacaaLq
import Derived.Test.YtbobppcnmpiacaaEpn
namespace Go.Proofs.Ytbobppcnmpiacaa
open Go.RowKit
set_option maxRecDepth 10000

/-- What is there while a sequence is drawn: wB is the world ahead of it. -/
structure FaDs (wB v : World) (bc : Nat) (ca : Option Addr) (cn cc p : Nat) (u : Value) (j : Nat) (aa : Option Addr) (an : Nat) (xs : List Int) : Prop where
  seq : ∃ ts : List Int, v.ownsRow wB.heap.size 3 1 u j (ts.map (Value.int .i64))
  at' : Row v aa an xs
  far : 0 < an → ∀ x, aa = some x → x.block ≠ bc ∧ u.ownBlock ≠ some x.block
  cur : Cur v bc ca cn cc p
  kept : Kept bc wB.heap.size wB v

section
variable {wB v v' : World} {bc : Nat} {ca : Option Addr} {cn cc p p' : Nat} {u : Value} {j : Nat} {aa : Option Addr} {an : Nat} {xs : List Int}

theorem ownsRow_moved {B : Nat} {v v' : World} {u : Value} {n : Nat} {l : List Value} (h : v.ownsRow B 3 1 u n l) (hk : ∀ g, B ≤ g → g < v.heap.size → v'.heap[g]? = v.heap[g]?) : v'.ownsRow B 3 1 u n l := by
  refine ⟨h.1, ?_⟩
  rcases h.2 with h0 | ⟨g, cap, cur, hv, hB, hh, r⟩
  · exact .inl h0
  · exact .inr ⟨g, cap, cur, hv, hB, (hk g hB (Array.getElem?_eq_some_iff.mp hh).1).trans hh, r⟩

theorem FaDs.go (h : FaDs wB v bc ca cn cc p u j aa an xs) (hk : Kept bc v.heap.size v v') (hc : Cur v' bc ca cn cc p') (hb : bc < wB.heap.size) : FaDs wB v' bc ca cn cc p' u j aa an xs := by
  obtain ⟨ts, ht⟩ := h.seq
  refine ⟨⟨ts, ownsRow_moved ht fun g hg hl => hk.block g hl (by omega)⟩, h.at'.far hk.size fun x h0 hx hl => hk.block _ hl (h.far h0 x hx).1, h.far, hc, h.kept.trans (hk.mono h.kept.size)⟩

theorem FaDs.grow (h : FaDs wB v bc ca cn cc p u j aa an xs) (hk : Below v.heap.size v v') (hb : bc < wB.heap.size) : FaDs wB v' bc ca cn cc p u j aa an xs := h.go (Kept.of_below hk) (h.cur.below hk h.cur.lt) hb

theorem FaDs.turn {ab : Option Addr} {bn : Nat} {ys : List Int} (h : FaDs wB v bc ca cn cc p u j aa an xs) (hk : Below v.heap.size v v') (hb : bc < wB.heap.size) (hr : Row v' ab bn ys) (hn : 0 < bn → ∀ x, ab = some x → v.heap.size ≤ x.block) : FaDs wB v' bc ca cn cc p u j ab bn ys := by
  have g := h.grow hk hb
  obtain ⟨ts, ht⟩ := h.seq
  refine ⟨g.seq, hr, fun h0 x hx => ⟨?_, fun e => ?_⟩, g.cur, g.kept⟩
  · have := hn h0 x hx; have := h.cur.lt; omega
  · have := hn h0 x hx; have := (ht.lt _ e).2; omega

theorem FaDs.append {g cp : Nat} {ts : List Int} {x : Int} {W : World} (h : FaDs wB v bc ca cn cc p u j aa an xs) (hb : bc < wB.heap.size) (ht : v.ownsRow wB.heap.size 3 1 u j (ts.map (Value.int .i64)))
    (hown : W.ownsRow wB.heap.size 3 1 (.slice (some ⟨g, 0, none⟩) (j + 1) cp) (j + 1) (ts.map (Value.int .i64) ++ [.int .i64 x])) (hgr : v.grownBy W u.ownBlock) (hl : u.ownBlock = some g ∨ g = v.heap.size) : FaDs wB W bc ca cn cc p (.slice (some ⟨g, 0, none⟩) (j + 1) cp) (j + 1) aa an xs := by
  have hlt := h.cur.lt
  have hs := h.kept.size
  have hbl : Below wB.heap.size v W := (Below.refl _ _).grown hgr hs fun q hq => (ht.lt q hq).1
  refine ⟨⟨ts ++ [x], by rw [List.map_append]; exact hown⟩, h.at'.far hgr.size fun y h0 hy hl => hgr.block _ hl fun e => (h.far h0 y hy).2 e.symm, fun h0 y hy => ⟨(h.far h0 y hy).1, fun e => ?_⟩, ?_, h.kept.trans (Kept.of_below hbl)⟩
  · have e' : g = y.block := by simpa [Value.ownBlock] using e
    rcases hl with hl | hl
    · exact (h.far h0 y hy).2 (by rw [hl, e'])
    · rcases h.at'.2 with h1 | ⟨b, off, e2, hl2, _⟩
      · omega
      · rw [e2] at hy; obtain rfl := Option.some.inj hy; simp at e'; omega
  · obtain ⟨s, hs'⟩ := h.cur
    exact ⟨s, (hbl.block bc hb).trans hs'⟩
end

/-- How DrawFireAll ends. -/
def FaDr (w : World) (e : Ending) (w' : World) : Prop :=
  ∃ (pl : Int) (a : Option Addr) (k c : Nat) (L : List (List Int)) (b : Option Addr) (n d : Nat) (xs : List Int) (b2 : Option Addr) (n2 d2 : Nat) (ts : List Int), e = .returned (.tuple #[.agg #[.int .i64 pl, .slice a k c], .slice b n d, .slice b2 n2 d2]) ∧ (0 ≤ pl ∧ pl ≤ 17) ∧ (1 ≤ k ∧ k ≤ 5) ∧ Lists w' a (3 * k) L ∧ sizeN k L ≤ 35 ∧ n ≤ 18 ∧ Row w' b n xs ∧ n2 ≤ 61 ∧ Row w' b2 n2 ts ∧ Below w.heap.size w w'

/-- What stays the same while a sequence is drawn. -/
structure FaB (w wB : World) (bc R V B : Nat) (ca : Option Addr) (cn : Nat) (bs : List Int) (pl : Int) (a : Option Addr) (k c : Nat) (cells : List Value) (b : Option Addr) (n : Nat) (xs : List Int) : Prop where
  was : RowB wB ca cn bs
  var : wB.heap[V]? = some (.cells #[.int .i64 pl, .slice a k c] 26 (0, 0))
  res : wB.heap[R]? = some (.cells #[.int .i64 0, .slice none 0 0] 26 (0, 0))
  net : NetOwn B wB (.slice a k c) k cells
  row : Row wB b n xs
  far : 0 < n → ∀ x, b = some x → bc < x.block ∧ R < x.block
  nums : w.heap.size = R ∧ R + 1 = bc ∧ bc < B ∧ B ≤ V
  bel : Below w.heap.size w wB

section
variable {w wB v : World} {bc R V B : Nat} {ca : Option Addr} {cn : Nat} {bs : List Int} {pl : Int} {a : Option Addr} {k c : Nat} {cells : List Value} {b : Option Addr} {n : Nat} {xs : List Int}

theorem FaB.lt (h : FaB w wB bc R V B ca cn bs pl a k c cells b n xs) : V < wB.heap.size := (Array.getElem?_eq_some_iff.mp h.var).1
theorem FaB.grow (h : FaB w wB bc R V B ca cn bs pl a k c cells b n xs) (hk : Kept bc wB.heap.size wB v) (hap : Apart ca cn bc) : FaB w v bc R V B ca cn bs pl a k c cells b n xs := by
  have hl := h.lt
  obtain ⟨h1, h2, h3, h4⟩ := h.nums
  exact ⟨h.was.kept hk hap, (hk.block V hl (by omega)).trans h.var, (hk.block R (by omega) (by omega)).trans h.res, h.net.kept hk (Nat.le_refl _) h3, h.row.far hk.size fun x h0 hx hlt => hk.block _ hlt (by have := (h.far h0 x hx).1; omega), h.far, ⟨h1, h2, h3, h4⟩, h.bel.trans ((hk.mono (by omega)).below (by omega))⟩
theorem FaB.c0 (h : FaB w wB bc R V B ca cn bs pl a k c cells b n xs) : wB.cell? ⟨V, 0, none⟩ = some (.int .i64 pl) := cell_of_row wB V 0 _ _ _ h.var
theorem FaB.c1 (h : FaB w wB bc R V B ca cn bs pl a k c cells b n xs) : wB.cell? ⟨V, 1, none⟩ = some (.slice a k c) := cell_of_row wB V 1 _ _ _ h.var
theorem FaB.lists (h : FaB w wB bc R V B ca cn bs pl a k c cells b n xs) (hk : k ≤ 5) : ∃ L, Lists wB a (3 * k) L ∧ sizeN k L ≤ 35 := by
  obtain ⟨a', c', L, e, hl, hs, _⟩ := h.net.lists hk
  obtain ⟨rfl, rfl⟩ : a = a' ∧ c = c' := by simpa using e
  exact ⟨L, hl, hs⟩

theorem FaB.done {ub : Option Addr} {un uc j p cc an : Nat} {aa : Option Addr} {zs : List Int} (h0 : FaB w wB bc R V B ca cn bs pl a k c cells b n xs) (hap : Apart ca cn bc) (S : FaDs wB v bc ca cn cc p (.slice ub un uc) j aa an zs) (hpl : 0 ≤ pl ∧ pl ≤ 17) (hk : 1 ≤ k ∧ k ≤ 5) (hn : n ≤ 18) (hj : j ≤ 61) (d : Nat) (y z : Value) :
    FaDr w (.returned (.tuple #[.agg #[.int .i64 pl, .slice a k c], .slice b n d, .slice ub un uc])) ((v.setCell ⟨R, 0, none⟩ y).setCell ⟨R, 1, none⟩ z) := by
  have h := h0.grow S.kept hap
  obtain ⟨h1, h2, h3, h4⟩ := h.nums
  have hlt := h0.lt
  have hset : ∀ q, q ≠ R → ((v.setCell ⟨R, 0, none⟩ y).setCell ⟨R, 1, none⟩ z).heap[q]? = v.heap[q]? := fun q hq => (Below.heap_setCell _ _ _ _ hq).trans (Below.heap_setCell _ _ _ _ hq)
  have hsz : v.heap.size ≤ ((v.setCell ⟨R, 0, none⟩ y).setCell ⟨R, 1, none⟩ z).heap.size := by simp [World.setCell]
  have NF := h.net.moved hsz fun q hq _ => hset q (by omega)
  obtain ⟨a', c', L, e', hl, hsl, _⟩ := NF.lists hk.2
  obtain ⟨rfl, rfl⟩ : a = a' ∧ c = c' := by simpa using e'
  obtain ⟨ts, hts⟩ := S.seq
  have hown : ((v.setCell ⟨R, 0, none⟩ y).setCell ⟨R, 1, none⟩ z).ownsRow wB.heap.size 3 1 (.slice ub un uc) j (ts.map (Value.int .i64)) := ownsRow_moved hts fun g hg _ => hset g (by omega)
  obtain ⟨a2, c2, e2, hr2⟩ := ownsRow_row2 hown
  obtain ⟨rfl, rfl, rfl⟩ : ub = a2 ∧ un = j ∧ uc = c2 := by simpa using e2
  refine ⟨pl, a, k, c, L, b, n, d, xs, ub, un, uc, ts, rfl, hpl, hk, hl, hsl, hn, h.row.far hsz fun x h0 hx _ => hset _ (by have := (h.far h0 x hx).2; omega), hj, hr2, ?_⟩
  exact Below.setCell (p := ⟨R, 1, none⟩) (Below.setCell (p := ⟨R, 0, none⟩) h.bel (show _ ≤ R by omega) _) (show _ ≤ R by omega) _
end

theorem fireR_le (p : Int) (n : Nat) (L : List (List Int)) (ys : List Int) (t : Int) : (fireR p n L ys t).length ≤ ys.length := by
  unfold fireR; split
  · unfold firedL fireL; rw [updL_len, updL_len, updL_len]; exact Nat.le_refl _
  · exact Nat.zero_le _

theorem enR_le (p : Int) (n : Nat) (L : List (List Int)) (ys : List Int) : (enR p n L ys).length ≤ n := by
  unfold enR; split
  · unfold numsL; rw [List.length_map]; exact Nat.le_trans (List.length_filter_le _ _) (by simp)
  · exact Nat.zero_le _

set_option maxHeartbeats 8000000 in
theorem drawFireAll_any (ca : Option Addr) (cn cc : Nat) (bs : List Int) (w : World) (hr : RowB w ca cn bs) (hn : cn ≤ 1048576) :
    Calls Try.prog 7 #[.slice ca cn cc] w fun e w' => FaDr w e w' := by
  have hA := below_al w (.cells #[.int .i64 0, .slice none 0 0] 26)
  have hA2 := below_al (w.alloc (.cells #[.int .i64 0, .slice none 0 0] 26)) (.cells #[.slice ca cn cc, .int .i64 0, .int .u64 0] 57)
  have HB := hide (hA.trans (hA2.mono hA.size))
  have HR := hide (hr.below HB.out)
  have HAP : Hid (Apart ca cn (w.heap.size + 1)) := fun h0 y hy => by have := hr.far h0 y hy; omega
  have HC : Hid (Cur ((w.alloc (.cells #[.int .i64 0, .slice none 0 0] 26)).alloc (.cells #[.slice ca cn cc, .int .i64 0, .int .u64 0] 57)) (w.heap.size + 1) ca cn cc 0) := ⟨0, by have := heap_alloc_new (w.alloc (.cells #[.int .i64 0, .slice none 0 0] 26)) (.cells #[.slice ca cn cc, .int .i64 0, .int .u64 0] 57); simpa using this⟩
  have HRES : Hid (((w.alloc (.cells #[.int .i64 0, .slice none 0 0] 26)).alloc (.cells #[.slice ca cn cc, .int .i64 0, .int .u64 0] 57)).heap[w.heap.size]? = some (.cells #[.int .i64 0, .slice none 0 0] 26 (0, 0))) := by
    show ((w.alloc _).alloc _).heap[w.heap.size]? = _
    rw [hA2.block _ (by simp)]; exact heap_alloc_new _ _
  have HSZ : Hid (((w.alloc (.cells #[.int .i64 0, .slice none 0 0] 26)).alloc (.cells #[.slice ca cn cc, .int .i64 0, .int .u64 0] 57)).heap.size = w.heap.size + 2) := by show _ = _; simp
  clear hr hA hA2
  go_enter Try.func7, Try.ntmps7
  go_wp2_with fail
  generalize (w.alloc (.cells #[.int .i64 0, .slice none 0 0] 26)).alloc (.cells #[.slice ca cn cc, .int .i64 0, .int .u64 0] 57) = w2 at HB HR HC HRES HSZ ⊢
  generalize hbb : w.heap.size + 1 = bc at HAP HC ⊢
  generalize hRR : w.heap.size = R at HRES HSZ hbb ⊢
  have HRR := hide hRR
  have HBB := hide hbb
  refine (net_draw true bc ca cn cc 0 bs _ HC.out HR.out HAP.out (by omega) hn).mono ?_
  rintro e v1 ⟨pl, u, k, cells, p1, rfl, hpl, hk1, hk5, hp1, hnet, hcur, hby, hkp⟩
  obtain ⟨a, c, L0, rfl, _, _, _⟩ := hnet.lists hk5
  have hA := below_al v1 (.cells #[.int .i64 pl, .slice a k c] 26)
  have hbw : bc < w2.heap.size := HC.out.lt
  have hs1 := hkp.size
  have N3 := hide (hnet.moved hA.size fun q _ hq => hA.block q hq)
  have C3 := hide (hcur.below hA hcur.lt)
  have B3 := hide (hby.kept (Kept.of_below (bc := bc) hA) HAP.out)
  have K3 := hide (hkp.trans ((Kept.of_below (bc := bc) hA).mono hs1))
  have V3 := hide (heap_alloc_new v1 (.cells #[.int .i64 pl, .slice a k c] 26))
  have HNU := hide (show R < w2.heap.size ∧ R ≠ bc ∧ w2.heap.size ≤ v1.heap.size ∧ bc < w2.heap.size ∧ R < bc by have := HSZ.out; omega)
  clear hnet hcur hby hkp hA HC HR hbb hRR hs1 HSZ hbw
  go_wp2_with fail
  generalize v1.alloc (.cells #[.int .i64 pl, .slice a k c] 26) = W3 at N3 C3 B3 K3 V3 ⊢
  generalize v1.heap.size = V at V3 HNU ⊢
  refine (markOf_draw pl a k c bc ca cn cc p1 bs _ C3.out B3.out HAP.out (by omega) hn hpl).mono ?_
  rintro e v2 ⟨b, n, d, xs, p2, rfl, hn18, hp2, hrow, hnew, hc2, hb2, hk2⟩
  have hV3 := row_lt V3.out
  have hnu := HNU.out
  have F2 : Hid (FaB w v2 bc R V w2.heap.size ca cn bs pl a k c cells b n xs) := by
    have hKr : Kept bc w2.heap.size w2 v2 := K3.out.trans (hk2.mono K3.out.size)
    refine ⟨hb2, (hk2.block V hV3 (by omega)).trans V3.out, (hKr.block R hnu.1 hnu.2.1).trans HRES.out, N3.out.kept hk2 (Nat.le_refl _) hnu.2.2.2.1, hrow, fun h0 x hx => ?_, ⟨HRR.out, HBB.out, hnu.2.2.2.1, hnu.2.2.1⟩, ?_⟩
    · have := hnew h0 x hx; omega
    · have h1 := HRR.out
      have h2 := HBB.out
      exact HB.out.trans ((hKr.mono HB.out.size).below (by omega))
  have C2 := hide hc2
  clear hrow hnew hc2 hb2 hk2 N3 C3 B3 K3 V3 hV3 hnu HB HRES
  go_wp2_with fail
  refine (pick_any 10 bc ca cn cc p2 bs _ C2.out F2.out.was (by omega) hn (by omega) (by omega)).mono ?_
  rintro e v3 ⟨r, rfl, hr, hcur, ho⟩
  have F3 := hide (F2.out.grow (Kept.of_only ho) HAP.out)
  have C3 := hide hcur
  clear hcur ho F2 C2
  go_wp2_with fail
  refine (one_any 30 bc ca cn cc (p2 + 1) bs _ C3.out F3.out.was (by omega) hn (by omega) (by omega)).mono ?_
  rintro e v4 ⟨bo, rfl, hcur, ho⟩
  have F4 := hide (F3.out.grow (Kept.of_only ho) HAP.out)
  have C4 := hide hcur
  clear hcur ho F3 C3
  obtain ⟨i0, hi, hz0, hz1, hz2⟩ := info_split Try.info3
  cases bo
  · go_wp2_with fail
    refine (own3_any b n d xs _ F4.out.row (by omega)).mono ?_
    rintro e v6 ⟨aa, ca6, rfl, hra, hna, hb6⟩
    have G := hide (F4.out.grow (Kept.of_below hb6) HAP.out)
    have hbw := HNU.out
    have hbB : bc < v6.heap.size := by have := C4.out.lt; have := hb6.size; omega
    have S0 : Hid (FaDs v6 v6 bc ca cn cc (p2 + 1 + 1) (.slice none 0 0) 0 aa n xs) := ⟨⟨[], World.ownsRow_nil _ _ _ _⟩, hra, fun h0 x hx => ⟨by have := hna h0 x hx; have := C4.out.lt; omega, fun e => by simp [Value.ownBlock] at e⟩, C4.out.below hb6 C4.out.lt, Kept.refl _ _ _⟩
    clear hra hna hb6 F4 C4 hbw
    go_wp2_with fail
    go_loopw [8, 9, 10] (fun u i t wr => ∃ (m q j : Nat) (ab : Option Addr) (bn bcp : Nat) (zs : List Int), i = .int .i64 m ∧ m + j ≤ 61 ∧ q ≤ p2 + 3 + 3 * j ∧ bn ≤ 18 ∧ t = .slice ab bn bcp ∧ Hid (FaDs v6 wr bc ca cn cc q u j ab bn zs)) (fun _ i _ _ => (intOf i).toNat)
    case atStart => exact ⟨r, (p2 + 1 + 1), 0, aa, n, ca6, xs, by go_num, by omega, by omega, by omega, rfl, S0⟩
    case round =>
      obtain ⟨m, q, j, ab, bn, bcp, zs, rfl, hmj, hq, hbn, rfl, T0⟩ := hrel
      clear S0
      by_cases hlt : 0 < m
      · have hm0 : (0 : Int) < (m : Int) := by omega
        have G0 := hide (G.out.grow T0.out.kept HAP.out)
        have hv1 := G0.out.c1
        go_wp2_with fail
        refine (most_any _ _ _).mono ?_
        rintro e v7 ⟨rfl, rfl⟩
        rw [show mostI 1 (k : Int) = (k : Int) by unfold mostI; split <;> omega]
        clear hv1
        go_wp2_with fail
        refine (pickS_any k bc ca cn cc q bs _ T0.out.cur G0.out.was (by omega) hn hk1 (by omega)).mono ?_
        rintro e v8 ⟨r8, q8, rfl, hr8, hq8, hcur, ho⟩
        have T1 := hide (T0.out.go (Kept.of_only ho) hcur hbB)
        clear hcur ho T0 G0
        have G1 := hide (G.out.grow T1.out.kept HAP.out)
        obtain ⟨L, hL, hLs⟩ := G1.out.lists hk5
        have hv0 := G1.out.c0
        have hv1 := G1.out.c1
        have HEN := hide (enR_le pl k L zs)
        obtain ⟨ge, hge⟩ : ∃ g, Hid (enOk pl k L zs = g) := ⟨_, rfl⟩
        obtain ⟨re, hre⟩ : ∃ l, Hid (enR pl k L zs = l) := ⟨_, rfl⟩
        rw [hre.out] at HEN
        have HC := hide (enabledN_any pl a ab k c bn bcp L zs _ hL T1.out.at' (by omega) (by omega))
        rw [hge.out, hre.out] at HC
        clear hL
        go_wp2_with fail
        refine HC.out.mono ?_
        rintro e v9 ⟨ae, ne, ce, rfl, hrow, hnew, hb9⟩
        have hne5 : ne ≤ 5 := by have h1 := hrow.1; have h2 := HEN.out; omega
        have T2 := hide (T1.out.grow hb9 hbB)
        have RE := hide hrow
        have RN : Hid (0 < ne → ∀ x, ae = some x → x.block ≠ bc) := fun h0 x hx => by have := hnew h0 x hx; have := T1.out.cur.lt; omega
        clear hrow hnew hb9 T1 HC hv0 hv1 G1
        cases ge
        · have GT := hide (G.out.grow T2.out.kept HAP.out)
          obtain ⟨LT, hLT, hLTs⟩ := GT.out.lists hk5
          have hv0 := GT.out.c0
          have hv1 := GT.out.c1
          obtain ⟨gf, hgf⟩ : ∃ g, Hid (fireOk pl k LT zs (r8 : Int) = g) := ⟨_, rfl⟩
          obtain ⟨rf, hrf⟩ : ∃ l, Hid (fireR pl k LT zs (r8 : Int) = l) := ⟨_, rfl⟩
          have HFL := hide (fireR_le pl k LT zs (r8 : Int))
          rw [hrf.out] at HFL
          have HZL := hide T2.out.at'.1
          have HC := hide (specFireN_any pl a ab k c bn bcp LT zs (r8 : Int) _ hLT T2.out.at' (by omega) (by omega))
          rw [hgf.out, hrf.out] at HC
          clear hLT
          go_wp2_with fail
          refine HC.out.mono ?_
          rintro e v20 ⟨af, nf, cf, rfl, hrow, hnew, hb20⟩
          have hnf : nf ≤ 18 := by have h1 := hrow.1; have h2 := HFL.out; have h3 := HZL.out; omega
          have TA := hide (T2.out.grow hb20 hbB)
          have TB := hide (T2.out.turn hb20 hbB hrow hnew)
          clear hrow hnew hb20 HC hv0 hv1 GT
          cases gf
          · obtain ⟨ts, hts⟩ := TA.out.seq
            have hA20 := below_al v20 (.cells #[.int .i64 (r8 : Int)] 3)
            have TC := hide (TA.out.grow hA20 hbB)
            have HO := hide (hts.alloc (.cells #[.int .i64 (r8 : Int)] 3))
            have hsz20 := TA.out.kept.size
            clear hts TA TB hA20
            go_wp2_with (at_builtin; refine wpList_append_lies _ rfl (.tmp 76) (.tmp 78) 27 rfl v6.heap.size 3 i0 (.int .i64 0) 1 8 Try.underlying27 hi hz0 hz1 hz2 rfl (by decide) u8 j _ rfl HO.out ⟨v20.heap.size, 0, none⟩ 1 1 [.int .i64 (r8 : Int)] rfl rfl (cell_one_new _ _ _) (by simp [Value.oneCell']) (by decide) (by unfold maxLen; omega) (by omega) (by simp; omega) (v20.heap.size + 1) (by simp) ?_; intro g cp W' hown hgr hlies hglt; have TD := hide (TC.out.append hbB HO.out hown hgr (by simpa using hlies)); clear hown hgr hlies hglt)
            go_roundw
            case rel => exact ⟨m - 1, q8, j + 1, _, _, _, _, by go_num, by omega, by omega, hbn, rfl, TD⟩
            case measure => simp [intOf]; omega
          · obtain ⟨ts, hts⟩ := TB.out.seq
            have hA20 := below_al v20 (.cells #[.int .i64 (r8 : Int)] 3)
            have TC := hide (TB.out.grow hA20 hbB)
            have HO := hide (hts.alloc (.cells #[.int .i64 (r8 : Int)] 3))
            have hsz20 := TB.out.kept.size
            clear hts TA TB hA20
            go_wp2_with (at_builtin; refine wpList_append_lies _ rfl (.tmp 76) (.tmp 78) 27 rfl v6.heap.size 3 i0 (.int .i64 0) 1 8 Try.underlying27 hi hz0 hz1 hz2 rfl (by decide) u8 j _ rfl HO.out ⟨v20.heap.size, 0, none⟩ 1 1 [.int .i64 (r8 : Int)] rfl rfl (cell_one_new _ _ _) (by simp [Value.oneCell']) (by decide) (by unfold maxLen; omega) (by omega) (by simp; omega) (v20.heap.size + 1) (by simp) ?_; intro g cp W' hown hgr hlies hglt; have TD := hide (TC.out.append hbB HO.out hown hgr (by simpa using hlies)); clear hown hgr hlies hglt)
            go_roundw
            case rel => exact ⟨m - 1, q8, j + 1, _, _, _, _, by go_num, by omega, by omega, hnf, rfl, TD⟩
            case measure => simp [intOf]; omega
        · by_cases hne0 : 0 < ne
          rotate_left
          · have hnz : ne = 0 := by omega
            subst hnz
            have GT := hide (G.out.grow T2.out.kept HAP.out)
            obtain ⟨LT, hLT, hLTs⟩ := GT.out.lists hk5
            have hv0 := GT.out.c0
            have hv1 := GT.out.c1
            obtain ⟨gf, hgf⟩ : ∃ g, Hid (fireOk pl k LT zs (r8 : Int) = g) := ⟨_, rfl⟩
            obtain ⟨rf, hrf⟩ : ∃ l, Hid (fireR pl k LT zs (r8 : Int) = l) := ⟨_, rfl⟩
            have HFL := hide (fireR_le pl k LT zs (r8 : Int))
            rw [hrf.out] at HFL
            have HZL := hide T2.out.at'.1
            have HC := hide (specFireN_any pl a ab k c bn bcp LT zs (r8 : Int) _ hLT T2.out.at' (by omega) (by omega))
            rw [hgf.out, hrf.out] at HC
            clear hLT
            go_wp2_with fail
            refine HC.out.mono ?_
            rintro e v20 ⟨af, nf, cf, rfl, hrow, hnew, hb20⟩
            have hnf : nf ≤ 18 := by have h1 := hrow.1; have h2 := HFL.out; have h3 := HZL.out; omega
            have TA := hide (T2.out.grow hb20 hbB)
            have TB := hide (T2.out.turn hb20 hbB hrow hnew)
            clear hrow hnew hb20 HC hv0 hv1 GT
            cases gf
            · obtain ⟨ts, hts⟩ := TA.out.seq
              have hA20 := below_al v20 (.cells #[.int .i64 (r8 : Int)] 3)
              have TC := hide (TA.out.grow hA20 hbB)
              have HO := hide (hts.alloc (.cells #[.int .i64 (r8 : Int)] 3))
              have hsz20 := TA.out.kept.size
              clear hts TA TB hA20
              go_wp2_with (at_builtin; refine wpList_append_lies _ rfl (.tmp 76) (.tmp 78) 27 rfl v6.heap.size 3 i0 (.int .i64 0) 1 8 Try.underlying27 hi hz0 hz1 hz2 rfl (by decide) u8 j _ rfl HO.out ⟨v20.heap.size, 0, none⟩ 1 1 [.int .i64 (r8 : Int)] rfl rfl (cell_one_new _ _ _) (by simp [Value.oneCell']) (by decide) (by unfold maxLen; omega) (by omega) (by simp; omega) (v20.heap.size + 1) (by simp) ?_; intro g cp W' hown hgr hlies hglt; have TD := hide (TC.out.append hbB HO.out hown hgr (by simpa using hlies)); clear hown hgr hlies hglt)
              go_roundw
              case rel => exact ⟨m - 1, q8, j + 1, _, _, _, _, by go_num, by omega, by omega, hbn, rfl, TD⟩
              case measure => simp [intOf]; omega
            · obtain ⟨ts, hts⟩ := TB.out.seq
              have hA20 := below_al v20 (.cells #[.int .i64 (r8 : Int)] 3)
              have TC := hide (TB.out.grow hA20 hbB)
              have HO := hide (hts.alloc (.cells #[.int .i64 (r8 : Int)] 3))
              have hsz20 := TB.out.kept.size
              clear hts TA TB hA20
              go_wp2_with (at_builtin; refine wpList_append_lies _ rfl (.tmp 76) (.tmp 78) 27 rfl v6.heap.size 3 i0 (.int .i64 0) 1 8 Try.underlying27 hi hz0 hz1 hz2 rfl (by decide) u8 j _ rfl HO.out ⟨v20.heap.size, 0, none⟩ 1 1 [.int .i64 (r8 : Int)] rfl rfl (cell_one_new _ _ _) (by simp [Value.oneCell']) (by decide) (by unfold maxLen; omega) (by omega) (by simp; omega) (v20.heap.size + 1) (by simp) ?_; intro g cp W' hown hgr hlies hglt; have TD := hide (TC.out.append hbB HO.out hown hgr (by simpa using hlies)); clear hown hgr hlies hglt)
              go_roundw
              case rel => exact ⟨m - 1, q8, j + 1, _, _, _, _, by go_num, by omega, by omega, hnf, rfl, TD⟩
              case measure => simp [intOf]; omega
          · have hne1 : (0 : Int) < (ne : Int) := by omega
            have G2 := hide (G.out.grow T2.out.kept HAP.out)
            go_wp2_with fail
            refine (one_any 12 bc ca cn cc q8 bs _ T2.out.cur G2.out.was (by omega) hn (by omega) (by omega)).mono ?_
            rintro e v10 ⟨b12, rfl, hcur, ho⟩
            have T3 := hide (T2.out.go (Kept.of_only ho) hcur hbB)
            have RE3 := hide (RE.out.far (Nat.le_of_eq ho.size.symm) fun x h0 hx _ => ho.block _ (RN.out h0 x hx))
            clear hcur ho T2 G2 RE
            cases b12
            rotate_left
            · have GT := hide (G.out.grow T3.out.kept HAP.out)
              obtain ⟨LT, hLT, hLTs⟩ := GT.out.lists hk5
              have hv0 := GT.out.c0
              have hv1 := GT.out.c1
              obtain ⟨gf, hgf⟩ : ∃ g, Hid (fireOk pl k LT zs (r8 : Int) = g) := ⟨_, rfl⟩
              obtain ⟨rf, hrf⟩ : ∃ l, Hid (fireR pl k LT zs (r8 : Int) = l) := ⟨_, rfl⟩
              have HFL := hide (fireR_le pl k LT zs (r8 : Int))
              rw [hrf.out] at HFL
              have HZL := hide T3.out.at'.1
              have HC := hide (specFireN_any pl a ab k c bn bcp LT zs (r8 : Int) _ hLT T3.out.at' (by omega) (by omega))
              rw [hgf.out, hrf.out] at HC
              clear hLT
              go_wp2_with fail
              refine HC.out.mono ?_
              rintro e v20 ⟨af, nf, cf, rfl, hrow, hnew, hb20⟩
              have hnf : nf ≤ 18 := by have h1 := hrow.1; have h2 := HFL.out; have h3 := HZL.out; omega
              have TA := hide (T3.out.grow hb20 hbB)
              have TB := hide (T3.out.turn hb20 hbB hrow hnew)
              clear hrow hnew hb20 HC hv0 hv1 GT
              cases gf
              · obtain ⟨ts, hts⟩ := TA.out.seq
                have hA20 := below_al v20 (.cells #[.int .i64 (r8 : Int)] 3)
                have TC := hide (TA.out.grow hA20 hbB)
                have HO := hide (hts.alloc (.cells #[.int .i64 (r8 : Int)] 3))
                have hsz20 := TA.out.kept.size
                clear hts TA TB hA20
                go_wp2_with (at_builtin; refine wpList_append_lies _ rfl (.tmp 76) (.tmp 78) 27 rfl v6.heap.size 3 i0 (.int .i64 0) 1 8 Try.underlying27 hi hz0 hz1 hz2 rfl (by decide) u8 j _ rfl HO.out ⟨v20.heap.size, 0, none⟩ 1 1 [.int .i64 (r8 : Int)] rfl rfl (cell_one_new _ _ _) (by simp [Value.oneCell']) (by decide) (by unfold maxLen; omega) (by omega) (by simp; omega) (v20.heap.size + 1) (by simp) ?_; intro g cp W' hown hgr hlies hglt; have TD := hide (TC.out.append hbB HO.out hown hgr (by simpa using hlies)); clear hown hgr hlies hglt)
                go_roundw
                case rel => exact ⟨m - 1, (q8 + 1), j + 1, _, _, _, _, by go_num, by omega, by omega, hbn, rfl, TD⟩
                case measure => simp [intOf]; omega
              · obtain ⟨ts, hts⟩ := TB.out.seq
                have hA20 := below_al v20 (.cells #[.int .i64 (r8 : Int)] 3)
                have TC := hide (TB.out.grow hA20 hbB)
                have HO := hide (hts.alloc (.cells #[.int .i64 (r8 : Int)] 3))
                have hsz20 := TB.out.kept.size
                clear hts TA TB hA20
                go_wp2_with (at_builtin; refine wpList_append_lies _ rfl (.tmp 76) (.tmp 78) 27 rfl v6.heap.size 3 i0 (.int .i64 0) 1 8 Try.underlying27 hi hz0 hz1 hz2 rfl (by decide) u8 j _ rfl HO.out ⟨v20.heap.size, 0, none⟩ 1 1 [.int .i64 (r8 : Int)] rfl rfl (cell_one_new _ _ _) (by simp [Value.oneCell']) (by decide) (by unfold maxLen; omega) (by omega) (by simp; omega) (v20.heap.size + 1) (by simp) ?_; intro g cp W' hown hgr hlies hglt; have TD := hide (TC.out.append hbB HO.out hown hgr (by simpa using hlies)); clear hown hgr hlies hglt)
                go_roundw
                case rel => exact ⟨m - 1, (q8 + 1), j + 1, _, _, _, _, by go_num, by omega, by omega, hnf, rfl, TD⟩
                case measure => simp [intOf]; omega
            · have G3 := hide (G.out.grow T3.out.kept HAP.out)
              go_wp2_with fail
              refine (pickS_any ne bc ca cn cc (q8 + 1) bs _ T3.out.cur G3.out.was (by omega) hn (by omega) (by omega)).mono ?_
              rintro e v11 ⟨r11, q11, rfl, hr11, hq11, hcur, ho⟩
              have T4 := hide (T3.out.go (Kept.of_only ho) hcur hbB)
              have RE4 := hide (RE3.out.far (Nat.le_of_eq ho.size.symm) fun x h0 hx _ => ho.block _ (RN.out h0 x hx))
              clear hcur ho T3 G3 RE3
              obtain ⟨be, oe, y, rfl, hle, hce, _⟩ := RE4.out.at hr11
              have hri : (r11 : Int) < (ne : Int) := by omega
              have GT := hide (G.out.grow T4.out.kept HAP.out)
              obtain ⟨LT, hLT, hLTs⟩ := GT.out.lists hk5
              have hv0 := GT.out.c0
              have hv1 := GT.out.c1
              obtain ⟨gf, hgf⟩ : ∃ g, Hid (fireOk pl k LT zs y = g) := ⟨_, rfl⟩
              obtain ⟨rf, hrf⟩ : ∃ l, Hid (fireR pl k LT zs y = l) := ⟨_, rfl⟩
              have HFL := hide (fireR_le pl k LT zs y)
              rw [hrf.out] at HFL
              have HZL := hide T4.out.at'.1
              have HC := hide (specFireN_any pl a ab k c bn bcp LT zs y _ hLT T4.out.at' (by omega) (by omega))
              rw [hgf.out, hrf.out] at HC
              clear hLT
              go_wp2_with fail
              refine HC.out.mono ?_
              rintro e v20 ⟨af, nf, cf, rfl, hrow, hnew, hb20⟩
              have hnf : nf ≤ 18 := by have h1 := hrow.1; have h2 := HFL.out; have h3 := HZL.out; omega
              have TA := hide (T4.out.grow hb20 hbB)
              have TB := hide (T4.out.turn hb20 hbB hrow hnew)
              clear hrow hnew hb20 HC hv0 hv1 GT
              cases gf
              · obtain ⟨ts, hts⟩ := TA.out.seq
                have hA20 := below_al v20 (.cells #[.int .i64 y] 3)
                have TC := hide (TA.out.grow hA20 hbB)
                have HO := hide (hts.alloc (.cells #[.int .i64 y] 3))
                have hsz20 := TA.out.kept.size
                clear hts TA TB hA20
                go_wp2_with (at_builtin; refine wpList_append_lies _ rfl (.tmp 76) (.tmp 78) 27 rfl v6.heap.size 3 i0 (.int .i64 0) 1 8 Try.underlying27 hi hz0 hz1 hz2 rfl (by decide) u8 j _ rfl HO.out ⟨v20.heap.size, 0, none⟩ 1 1 [.int .i64 y] rfl rfl (cell_one_new _ _ _) (by simp [Value.oneCell']) (by decide) (by unfold maxLen; omega) (by omega) (by simp; omega) (v20.heap.size + 1) (by simp) ?_; intro g cp W' hown hgr hlies hglt; have TD := hide (TC.out.append hbB HO.out hown hgr (by simpa using hlies)); clear hown hgr hlies hglt)
                go_roundw
                case rel => exact ⟨m - 1, q11, j + 1, _, _, _, _, by go_num, by omega, by omega, hbn, rfl, TD⟩
                case measure => simp [intOf]; omega
              · obtain ⟨ts, hts⟩ := TB.out.seq
                have hA20 := below_al v20 (.cells #[.int .i64 y] 3)
                have TC := hide (TB.out.grow hA20 hbB)
                have HO := hide (hts.alloc (.cells #[.int .i64 y] 3))
                have hsz20 := TB.out.kept.size
                clear hts TA TB hA20
                go_wp2_with (at_builtin; refine wpList_append_lies _ rfl (.tmp 76) (.tmp 78) 27 rfl v6.heap.size 3 i0 (.int .i64 0) 1 8 Try.underlying27 hi hz0 hz1 hz2 rfl (by decide) u8 j _ rfl HO.out ⟨v20.heap.size, 0, none⟩ 1 1 [.int .i64 y] rfl rfl (cell_one_new _ _ _) (by simp [Value.oneCell']) (by decide) (by unfold maxLen; omega) (by omega) (by simp; omega) (v20.heap.size + 1) (by simp) ?_; intro g cp W' hown hgr hlies hglt; have TD := hide (TC.out.append hbB HO.out hown hgr (by simpa using hlies)); clear hown hgr hlies hglt)
                go_roundw
                case rel => exact ⟨m - 1, q11, j + 1, _, _, _, _, by go_num, by omega, by omega, hnf, rfl, TD⟩
                case measure => simp [intOf]; omega
      · have hm0 : m = 0 := by omega
        subst hm0
        have G0 := hide (G.out.grow T0.out.kept HAP.out)
        have hv0 := G0.out.c0
        have hv1 := G0.out.c1
        have hRr := G0.out.res
        have hr0 : wr.cell? ⟨R, 0, none⟩ = some (.int .i64 0) := cell_of_row wr R 0 _ _ _ hRr
        have hr1 : wr.cell? ⟨R, 1, none⟩ = some (.slice none 0 0) := cell_of_row wr R 1 _ _ _ hRr
        have hf0 : wr.frozen? ⟨R, 0, none⟩ = false := frozen_of_row wr R 0 _ _ hRr
        have hf1 : wr.frozen? ⟨R, 1, none⟩ = false := frozen_of_row wr R 1 _ _ hRr
        obtain ⟨ts, hts⟩ := T0.out.seq
        obtain ⟨ub, uc, hu8, _⟩ := ownsRow_row2 hts
        subst hu8
        clear hRr hts G0
        go_wp2_with fail
        refine bodyPost_ret (v := .tuple #[.agg #[.int .i64 pl, .slice a k c], .slice b n d, .slice ub j uc]) (by simp [results, Try.results7, go_sem, hr0, hr1]) rfl ?_
        exact G.out.done HAP.out T0.out hpl ⟨hk1, hk5⟩ hn18 (by omega) d _ _
  · go_wp2_with fail
    refine (pick_any 2 bc ca cn cc (p2 + 1 + 1) bs _ C4.out F4.out.was (by omega) hn (by omega) (by omega)).mono ?_
    rintro e v5 ⟨r5, rfl, hr5, hcur, ho⟩
    have F5 := hide (F4.out.grow (Kept.of_only ho) HAP.out)
    have C5 := hide hcur
    clear hcur ho F4 C4
    go_wp2_with fail
    refine (own3_any b n d xs _ F5.out.row (by omega)).mono ?_
    rintro e v6 ⟨aa, ca6, rfl, hra, hna, hb6⟩
    have G := hide (F5.out.grow (Kept.of_below hb6) HAP.out)
    have hbw := HNU.out
    have hbB : bc < v6.heap.size := by have := C5.out.lt; have := hb6.size; omega
    have S0 : Hid (FaDs v6 v6 bc ca cn cc (p2 + 1 + 1 + 1) (.slice none 0 0) 0 aa n xs) := ⟨⟨[], World.ownsRow_nil _ _ _ _⟩, hra, fun h0 x hx => ⟨by have := hna h0 x hx; have := C5.out.lt; omega, fun e => by simp [Value.ownBlock] at e⟩, C5.out.below hb6 C5.out.lt, Kept.refl _ _ _⟩
    clear hra hna hb6 F5 C5 hbw
    go_wp2_with fail
    go_loopw [8, 9, 10] (fun u i t wr => ∃ (m q j : Nat) (ab : Option Addr) (bn bcp : Nat) (zs : List Int), i = .int .i64 m ∧ m + j ≤ 61 ∧ q ≤ p2 + 3 + 3 * j ∧ bn ≤ 18 ∧ t = .slice ab bn bcp ∧ Hid (FaDs v6 wr bc ca cn cc q u j ab bn zs)) (fun _ i _ _ => (intOf i).toNat)
    case atStart => exact ⟨(60 + r5), (p2 + 1 + 1 + 1), 0, aa, n, ca6, xs, by go_num, by omega, by omega, by omega, rfl, S0⟩
    case round =>
      obtain ⟨m, q, j, ab, bn, bcp, zs, rfl, hmj, hq, hbn, rfl, T0⟩ := hrel
      clear S0
      by_cases hlt : 0 < m
      · have hm0 : (0 : Int) < (m : Int) := by omega
        have G0 := hide (G.out.grow T0.out.kept HAP.out)
        have hv1 := G0.out.c1
        go_wp2_with fail
        refine (most_any _ _ _).mono ?_
        rintro e v7 ⟨rfl, rfl⟩
        rw [show mostI 1 (k : Int) = (k : Int) by unfold mostI; split <;> omega]
        clear hv1
        go_wp2_with fail
        refine (pickS_any k bc ca cn cc q bs _ T0.out.cur G0.out.was (by omega) hn hk1 (by omega)).mono ?_
        rintro e v8 ⟨r8, q8, rfl, hr8, hq8, hcur, ho⟩
        have T1 := hide (T0.out.go (Kept.of_only ho) hcur hbB)
        clear hcur ho T0 G0
        have G1 := hide (G.out.grow T1.out.kept HAP.out)
        obtain ⟨L, hL, hLs⟩ := G1.out.lists hk5
        have hv0 := G1.out.c0
        have hv1 := G1.out.c1
        have HEN := hide (enR_le pl k L zs)
        obtain ⟨ge, hge⟩ : ∃ g, Hid (enOk pl k L zs = g) := ⟨_, rfl⟩
        obtain ⟨re, hre⟩ : ∃ l, Hid (enR pl k L zs = l) := ⟨_, rfl⟩
        rw [hre.out] at HEN
        have HC := hide (enabledN_any pl a ab k c bn bcp L zs _ hL T1.out.at' (by omega) (by omega))
        rw [hge.out, hre.out] at HC
        clear hL
        go_wp2_with fail
        refine HC.out.mono ?_
        rintro e v9 ⟨ae, ne, ce, rfl, hrow, hnew, hb9⟩
        have hne5 : ne ≤ 5 := by have h1 := hrow.1; have h2 := HEN.out; omega
        have T2 := hide (T1.out.grow hb9 hbB)
        have RE := hide hrow
        have RN : Hid (0 < ne → ∀ x, ae = some x → x.block ≠ bc) := fun h0 x hx => by have := hnew h0 x hx; have := T1.out.cur.lt; omega
        clear hrow hnew hb9 T1 HC hv0 hv1 G1
        cases ge
        · have GT := hide (G.out.grow T2.out.kept HAP.out)
          obtain ⟨LT, hLT, hLTs⟩ := GT.out.lists hk5
          have hv0 := GT.out.c0
          have hv1 := GT.out.c1
          obtain ⟨gf, hgf⟩ : ∃ g, Hid (fireOk pl k LT zs (r8 : Int) = g) := ⟨_, rfl⟩
          obtain ⟨rf, hrf⟩ : ∃ l, Hid (fireR pl k LT zs (r8 : Int) = l) := ⟨_, rfl⟩
          have HFL := hide (fireR_le pl k LT zs (r8 : Int))
          rw [hrf.out] at HFL
          have HZL := hide T2.out.at'.1
          have HC := hide (specFireN_any pl a ab k c bn bcp LT zs (r8 : Int) _ hLT T2.out.at' (by omega) (by omega))
          rw [hgf.out, hrf.out] at HC
          clear hLT
          go_wp2_with fail
          refine HC.out.mono ?_
          rintro e v20 ⟨af, nf, cf, rfl, hrow, hnew, hb20⟩
          have hnf : nf ≤ 18 := by have h1 := hrow.1; have h2 := HFL.out; have h3 := HZL.out; omega
          have TA := hide (T2.out.grow hb20 hbB)
          have TB := hide (T2.out.turn hb20 hbB hrow hnew)
          clear hrow hnew hb20 HC hv0 hv1 GT
          cases gf
          · obtain ⟨ts, hts⟩ := TA.out.seq
            have hA20 := below_al v20 (.cells #[.int .i64 (r8 : Int)] 3)
            have TC := hide (TA.out.grow hA20 hbB)
            have HO := hide (hts.alloc (.cells #[.int .i64 (r8 : Int)] 3))
            have hsz20 := TA.out.kept.size
            clear hts TA TB hA20
            go_wp2_with (at_builtin; refine wpList_append_lies _ rfl (.tmp 76) (.tmp 78) 27 rfl v6.heap.size 3 i0 (.int .i64 0) 1 8 Try.underlying27 hi hz0 hz1 hz2 rfl (by decide) u8 j _ rfl HO.out ⟨v20.heap.size, 0, none⟩ 1 1 [.int .i64 (r8 : Int)] rfl rfl (cell_one_new _ _ _) (by simp [Value.oneCell']) (by decide) (by unfold maxLen; omega) (by omega) (by simp; omega) (v20.heap.size + 1) (by simp) ?_; intro g cp W' hown hgr hlies hglt; have TD := hide (TC.out.append hbB HO.out hown hgr (by simpa using hlies)); clear hown hgr hlies hglt)
            go_roundw
            case rel => exact ⟨m - 1, q8, j + 1, _, _, _, _, by go_num, by omega, by omega, hbn, rfl, TD⟩
            case measure => simp [intOf]; omega
          · obtain ⟨ts, hts⟩ := TB.out.seq
            have hA20 := below_al v20 (.cells #[.int .i64 (r8 : Int)] 3)
            have TC := hide (TB.out.grow hA20 hbB)
            have HO := hide (hts.alloc (.cells #[.int .i64 (r8 : Int)] 3))
            have hsz20 := TB.out.kept.size
            clear hts TA TB hA20
            go_wp2_with (at_builtin; refine wpList_append_lies _ rfl (.tmp 76) (.tmp 78) 27 rfl v6.heap.size 3 i0 (.int .i64 0) 1 8 Try.underlying27 hi hz0 hz1 hz2 rfl (by decide) u8 j _ rfl HO.out ⟨v20.heap.size, 0, none⟩ 1 1 [.int .i64 (r8 : Int)] rfl rfl (cell_one_new _ _ _) (by simp [Value.oneCell']) (by decide) (by unfold maxLen; omega) (by omega) (by simp; omega) (v20.heap.size + 1) (by simp) ?_; intro g cp W' hown hgr hlies hglt; have TD := hide (TC.out.append hbB HO.out hown hgr (by simpa using hlies)); clear hown hgr hlies hglt)
            go_roundw
            case rel => exact ⟨m - 1, q8, j + 1, _, _, _, _, by go_num, by omega, by omega, hnf, rfl, TD⟩
            case measure => simp [intOf]; omega
        · by_cases hne0 : 0 < ne
          rotate_left
          · have hnz : ne = 0 := by omega
            subst hnz
            have GT := hide (G.out.grow T2.out.kept HAP.out)
            obtain ⟨LT, hLT, hLTs⟩ := GT.out.lists hk5
            have hv0 := GT.out.c0
            have hv1 := GT.out.c1
            obtain ⟨gf, hgf⟩ : ∃ g, Hid (fireOk pl k LT zs (r8 : Int) = g) := ⟨_, rfl⟩
            obtain ⟨rf, hrf⟩ : ∃ l, Hid (fireR pl k LT zs (r8 : Int) = l) := ⟨_, rfl⟩
            have HFL := hide (fireR_le pl k LT zs (r8 : Int))
            rw [hrf.out] at HFL
            have HZL := hide T2.out.at'.1
            have HC := hide (specFireN_any pl a ab k c bn bcp LT zs (r8 : Int) _ hLT T2.out.at' (by omega) (by omega))
            rw [hgf.out, hrf.out] at HC
            clear hLT
            go_wp2_with fail
            refine HC.out.mono ?_
            rintro e v20 ⟨af, nf, cf, rfl, hrow, hnew, hb20⟩
            have hnf : nf ≤ 18 := by have h1 := hrow.1; have h2 := HFL.out; have h3 := HZL.out; omega
            have TA := hide (T2.out.grow hb20 hbB)
            have TB := hide (T2.out.turn hb20 hbB hrow hnew)
            clear hrow hnew hb20 HC hv0 hv1 GT
            cases gf
            · obtain ⟨ts, hts⟩ := TA.out.seq
              have hA20 := below_al v20 (.cells #[.int .i64 (r8 : Int)] 3)
              have TC := hide (TA.out.grow hA20 hbB)
              have HO := hide (hts.alloc (.cells #[.int .i64 (r8 : Int)] 3))
              have hsz20 := TA.out.kept.size
              clear hts TA TB hA20
              go_wp2_with (at_builtin; refine wpList_append_lies _ rfl (.tmp 76) (.tmp 78) 27 rfl v6.heap.size 3 i0 (.int .i64 0) 1 8 Try.underlying27 hi hz0 hz1 hz2 rfl (by decide) u8 j _ rfl HO.out ⟨v20.heap.size, 0, none⟩ 1 1 [.int .i64 (r8 : Int)] rfl rfl (cell_one_new _ _ _) (by simp [Value.oneCell']) (by decide) (by unfold maxLen; omega) (by omega) (by simp; omega) (v20.heap.size + 1) (by simp) ?_; intro g cp W' hown hgr hlies hglt; have TD := hide (TC.out.append hbB HO.out hown hgr (by simpa using hlies)); clear hown hgr hlies hglt)
              go_roundw
              case rel => exact ⟨m - 1, q8, j + 1, _, _, _, _, by go_num, by omega, by omega, hbn, rfl, TD⟩
              case measure => simp [intOf]; omega
            · obtain ⟨ts, hts⟩ := TB.out.seq
              have hA20 := below_al v20 (.cells #[.int .i64 (r8 : Int)] 3)
              have TC := hide (TB.out.grow hA20 hbB)
              have HO := hide (hts.alloc (.cells #[.int .i64 (r8 : Int)] 3))
              have hsz20 := TB.out.kept.size
              clear hts TA TB hA20
              go_wp2_with (at_builtin; refine wpList_append_lies _ rfl (.tmp 76) (.tmp 78) 27 rfl v6.heap.size 3 i0 (.int .i64 0) 1 8 Try.underlying27 hi hz0 hz1 hz2 rfl (by decide) u8 j _ rfl HO.out ⟨v20.heap.size, 0, none⟩ 1 1 [.int .i64 (r8 : Int)] rfl rfl (cell_one_new _ _ _) (by simp [Value.oneCell']) (by decide) (by unfold maxLen; omega) (by omega) (by simp; omega) (v20.heap.size + 1) (by simp) ?_; intro g cp W' hown hgr hlies hglt; have TD := hide (TC.out.append hbB HO.out hown hgr (by simpa using hlies)); clear hown hgr hlies hglt)
              go_roundw
              case rel => exact ⟨m - 1, q8, j + 1, _, _, _, _, by go_num, by omega, by omega, hnf, rfl, TD⟩
              case measure => simp [intOf]; omega
          · have hne1 : (0 : Int) < (ne : Int) := by omega
            have G2 := hide (G.out.grow T2.out.kept HAP.out)
            go_wp2_with fail
            refine (one_any 12 bc ca cn cc q8 bs _ T2.out.cur G2.out.was (by omega) hn (by omega) (by omega)).mono ?_
            rintro e v10 ⟨b12, rfl, hcur, ho⟩
            have T3 := hide (T2.out.go (Kept.of_only ho) hcur hbB)
            have RE3 := hide (RE.out.far (Nat.le_of_eq ho.size.symm) fun x h0 hx _ => ho.block _ (RN.out h0 x hx))
            clear hcur ho T2 G2 RE
            cases b12
            rotate_left
            · have GT := hide (G.out.grow T3.out.kept HAP.out)
              obtain ⟨LT, hLT, hLTs⟩ := GT.out.lists hk5
              have hv0 := GT.out.c0
              have hv1 := GT.out.c1
              obtain ⟨gf, hgf⟩ : ∃ g, Hid (fireOk pl k LT zs (r8 : Int) = g) := ⟨_, rfl⟩
              obtain ⟨rf, hrf⟩ : ∃ l, Hid (fireR pl k LT zs (r8 : Int) = l) := ⟨_, rfl⟩
              have HFL := hide (fireR_le pl k LT zs (r8 : Int))
              rw [hrf.out] at HFL
              have HZL := hide T3.out.at'.1
              have HC := hide (specFireN_any pl a ab k c bn bcp LT zs (r8 : Int) _ hLT T3.out.at' (by omega) (by omega))
              rw [hgf.out, hrf.out] at HC
              clear hLT
              go_wp2_with fail
              refine HC.out.mono ?_
              rintro e v20 ⟨af, nf, cf, rfl, hrow, hnew, hb20⟩
              have hnf : nf ≤ 18 := by have h1 := hrow.1; have h2 := HFL.out; have h3 := HZL.out; omega
              have TA := hide (T3.out.grow hb20 hbB)
              have TB := hide (T3.out.turn hb20 hbB hrow hnew)
              clear hrow hnew hb20 HC hv0 hv1 GT
              cases gf
              · obtain ⟨ts, hts⟩ := TA.out.seq
                have hA20 := below_al v20 (.cells #[.int .i64 (r8 : Int)] 3)
                have TC := hide (TA.out.grow hA20 hbB)
                have HO := hide (hts.alloc (.cells #[.int .i64 (r8 : Int)] 3))
                have hsz20 := TA.out.kept.size
                clear hts TA TB hA20
                go_wp2_with (at_builtin; refine wpList_append_lies _ rfl (.tmp 76) (.tmp 78) 27 rfl v6.heap.size 3 i0 (.int .i64 0) 1 8 Try.underlying27 hi hz0 hz1 hz2 rfl (by decide) u8 j _ rfl HO.out ⟨v20.heap.size, 0, none⟩ 1 1 [.int .i64 (r8 : Int)] rfl rfl (cell_one_new _ _ _) (by simp [Value.oneCell']) (by decide) (by unfold maxLen; omega) (by omega) (by simp; omega) (v20.heap.size + 1) (by simp) ?_; intro g cp W' hown hgr hlies hglt; have TD := hide (TC.out.append hbB HO.out hown hgr (by simpa using hlies)); clear hown hgr hlies hglt)
                go_roundw
                case rel => exact ⟨m - 1, (q8 + 1), j + 1, _, _, _, _, by go_num, by omega, by omega, hbn, rfl, TD⟩
                case measure => simp [intOf]; omega
              · obtain ⟨ts, hts⟩ := TB.out.seq
                have hA20 := below_al v20 (.cells #[.int .i64 (r8 : Int)] 3)
                have TC := hide (TB.out.grow hA20 hbB)
                have HO := hide (hts.alloc (.cells #[.int .i64 (r8 : Int)] 3))
                have hsz20 := TB.out.kept.size
                clear hts TA TB hA20
                go_wp2_with (at_builtin; refine wpList_append_lies _ rfl (.tmp 76) (.tmp 78) 27 rfl v6.heap.size 3 i0 (.int .i64 0) 1 8 Try.underlying27 hi hz0 hz1 hz2 rfl (by decide) u8 j _ rfl HO.out ⟨v20.heap.size, 0, none⟩ 1 1 [.int .i64 (r8 : Int)] rfl rfl (cell_one_new _ _ _) (by simp [Value.oneCell']) (by decide) (by unfold maxLen; omega) (by omega) (by simp; omega) (v20.heap.size + 1) (by simp) ?_; intro g cp W' hown hgr hlies hglt; have TD := hide (TC.out.append hbB HO.out hown hgr (by simpa using hlies)); clear hown hgr hlies hglt)
                go_roundw
                case rel => exact ⟨m - 1, (q8 + 1), j + 1, _, _, _, _, by go_num, by omega, by omega, hnf, rfl, TD⟩
                case measure => simp [intOf]; omega
            · have G3 := hide (G.out.grow T3.out.kept HAP.out)
              go_wp2_with fail
              refine (pickS_any ne bc ca cn cc (q8 + 1) bs _ T3.out.cur G3.out.was (by omega) hn (by omega) (by omega)).mono ?_
              rintro e v11 ⟨r11, q11, rfl, hr11, hq11, hcur, ho⟩
              have T4 := hide (T3.out.go (Kept.of_only ho) hcur hbB)
              have RE4 := hide (RE3.out.far (Nat.le_of_eq ho.size.symm) fun x h0 hx _ => ho.block _ (RN.out h0 x hx))
              clear hcur ho T3 G3 RE3
              obtain ⟨be, oe, y, rfl, hle, hce, _⟩ := RE4.out.at hr11
              have hri : (r11 : Int) < (ne : Int) := by omega
              have GT := hide (G.out.grow T4.out.kept HAP.out)
              obtain ⟨LT, hLT, hLTs⟩ := GT.out.lists hk5
              have hv0 := GT.out.c0
              have hv1 := GT.out.c1
              obtain ⟨gf, hgf⟩ : ∃ g, Hid (fireOk pl k LT zs y = g) := ⟨_, rfl⟩
              obtain ⟨rf, hrf⟩ : ∃ l, Hid (fireR pl k LT zs y = l) := ⟨_, rfl⟩
              have HFL := hide (fireR_le pl k LT zs y)
              rw [hrf.out] at HFL
              have HZL := hide T4.out.at'.1
              have HC := hide (specFireN_any pl a ab k c bn bcp LT zs y _ hLT T4.out.at' (by omega) (by omega))
              rw [hgf.out, hrf.out] at HC
              clear hLT
              go_wp2_with fail
              refine HC.out.mono ?_
              rintro e v20 ⟨af, nf, cf, rfl, hrow, hnew, hb20⟩
              have hnf : nf ≤ 18 := by have h1 := hrow.1; have h2 := HFL.out; have h3 := HZL.out; omega
              have TA := hide (T4.out.grow hb20 hbB)
              have TB := hide (T4.out.turn hb20 hbB hrow hnew)
              clear hrow hnew hb20 HC hv0 hv1 GT
              cases gf
              · obtain ⟨ts, hts⟩ := TA.out.seq
                have hA20 := below_al v20 (.cells #[.int .i64 y] 3)
                have TC := hide (TA.out.grow hA20 hbB)
                have HO := hide (hts.alloc (.cells #[.int .i64 y] 3))
                have hsz20 := TA.out.kept.size
                clear hts TA TB hA20
                go_wp2_with (at_builtin; refine wpList_append_lies _ rfl (.tmp 76) (.tmp 78) 27 rfl v6.heap.size 3 i0 (.int .i64 0) 1 8 Try.underlying27 hi hz0 hz1 hz2 rfl (by decide) u8 j _ rfl HO.out ⟨v20.heap.size, 0, none⟩ 1 1 [.int .i64 y] rfl rfl (cell_one_new _ _ _) (by simp [Value.oneCell']) (by decide) (by unfold maxLen; omega) (by omega) (by simp; omega) (v20.heap.size + 1) (by simp) ?_; intro g cp W' hown hgr hlies hglt; have TD := hide (TC.out.append hbB HO.out hown hgr (by simpa using hlies)); clear hown hgr hlies hglt)
                go_roundw
                case rel => exact ⟨m - 1, q11, j + 1, _, _, _, _, by go_num, by omega, by omega, hbn, rfl, TD⟩
                case measure => simp [intOf]; omega
              · obtain ⟨ts, hts⟩ := TB.out.seq
                have hA20 := below_al v20 (.cells #[.int .i64 y] 3)
                have TC := hide (TB.out.grow hA20 hbB)
                have HO := hide (hts.alloc (.cells #[.int .i64 y] 3))
                have hsz20 := TB.out.kept.size
                clear hts TA TB hA20
                go_wp2_with (at_builtin; refine wpList_append_lies _ rfl (.tmp 76) (.tmp 78) 27 rfl v6.heap.size 3 i0 (.int .i64 0) 1 8 Try.underlying27 hi hz0 hz1 hz2 rfl (by decide) u8 j _ rfl HO.out ⟨v20.heap.size, 0, none⟩ 1 1 [.int .i64 y] rfl rfl (cell_one_new _ _ _) (by simp [Value.oneCell']) (by decide) (by unfold maxLen; omega) (by omega) (by simp; omega) (v20.heap.size + 1) (by simp) ?_; intro g cp W' hown hgr hlies hglt; have TD := hide (TC.out.append hbB HO.out hown hgr (by simpa using hlies)); clear hown hgr hlies hglt)
                go_roundw
                case rel => exact ⟨m - 1, q11, j + 1, _, _, _, _, by go_num, by omega, by omega, hnf, rfl, TD⟩
                case measure => simp [intOf]; omega
      · have hm0 : m = 0 := by omega
        subst hm0
        have G0 := hide (G.out.grow T0.out.kept HAP.out)
        have hv0 := G0.out.c0
        have hv1 := G0.out.c1
        have hRr := G0.out.res
        have hr0 : wr.cell? ⟨R, 0, none⟩ = some (.int .i64 0) := cell_of_row wr R 0 _ _ _ hRr
        have hr1 : wr.cell? ⟨R, 1, none⟩ = some (.slice none 0 0) := cell_of_row wr R 1 _ _ _ hRr
        have hf0 : wr.frozen? ⟨R, 0, none⟩ = false := frozen_of_row wr R 0 _ _ hRr
        have hf1 : wr.frozen? ⟨R, 1, none⟩ = false := frozen_of_row wr R 1 _ _ hRr
        obtain ⟨ts, hts⟩ := T0.out.seq
        obtain ⟨ub, uc, hu8, _⟩ := ownsRow_row2 hts
        subst hu8
        clear hRr hts G0
        go_wp2_with fail
        refine bodyPost_ret (v := .tuple #[.agg #[.int .i64 pl, .slice a k c], .slice b n d, .slice ub j uc]) (by simp [results, Try.results7, go_sem, hr0, hr1]) rfl ?_
        exact G.out.done HAP.out T0.out hpl ⟨hk1, hk5⟩ hn18 (by omega) d _ _
end Go.Proofs.Ytbobppcnmpiacaa
