/- Contracts that the proof stands on, one behind the other. -/
import Derived.Test.YtedbihlpggficaaP12
/- A space in the law's hands: compared, marked, held; the law's state. -/
namespace Go.Proofs.Ytedbihlpggficaa
open Go.RowKit
set_option maxRecDepth 10000

set_option maxHeartbeats 1000000 in
theorem eqSpace_any (a d e f : Option Addr) (N c c' A k k' b b' : Nat) (ms : List (List Int)) (xs : List Int) (w : World) (h : Lists w a N ms) (g : Lists w d N ms) (hs : sizeN N ms ≤ 1048576) (ha : AB w e b A xs) (hb : AB w f b' A xs) (hA : A ≤ 9600) :
    Calls Try.prog 14 #[.agg #[.slice a N c, .slice e A k], .agg #[.slice d N c', .slice f A k']] w fun e w' => e = .returned (.bool true) ∧ Below w.heap.size w w' := by
  have hAl := (below_al w (.cells #[.slice a N c, .slice e A k] 30)).trans ((below_al (w.alloc (.cells #[.slice a N c, .slice e A k] 30)) (.cells #[.slice d N c', .slice f A k'] 30)).mono (by simp))
  have H1 := hide (keep (heap_alloc_new w (.cells #[.slice a N c, .slice e A k] 30)) (below_al (w.alloc (.cells #[.slice a N c, .slice e A k] 30)) (.cells #[.slice d N c', .slice f A k'] 30)))
  have H2 := hide (heap_alloc2_new w (.cells #[.slice a N c, .slice e A k] 30) (.cells #[.slice d N c', .slice f A k'] 30))
  have HL := hide (h.below hAl)
  have HG := hide (g.below hAl)
  have HA := hide (ha.grow hAl)
  have HB := hide (hb.grow hAl)
  have HW := hide hAl
  clear h g ha hb hAl
  go_enter Try.func14, Try.ntmps14
  go_upto_region 1 with fail
  generalize (w.alloc (.cells #[.slice a N c, .slice e A k] 30)).alloc (.cells #[.slice d N c', .slice f A k'] 30) = v at *
  obtain ⟨hc0, hc1⟩ := cells2 H1.out
  obtain ⟨hd0, hd1⟩ := cells2 H2.out
  go_wp2_with fail
  refine (eqSS_any a d N c c' ms v HL.out HG.out hs).mono ?_
  rintro e1 w1 ⟨rfl, hb1⟩
  have HW1 := hide (HW.out.trans (hb1.mono HW.out.size))
  have HE := hide (eqArcS_any e f b b' A k k' xs w1 (HA.out.grow hb1) (HB.out.grow hb1) hA)
  obtain ⟨hc0', hc1'⟩ := cells2 (keep H1.out hb1)
  obtain ⟨hd0', hd1'⟩ := cells2 (keep H2.out hb1)
  clear hc0 hc1 hd0 hd1 hb1 HW HL HG HA HB
  go_wp2_with fail
  refine HE.out.mono ?_
  rintro e2 w2 ⟨rfl, hb2⟩
  have HW2 := hide (HW1.out.trans (hb2.mono HW1.out.size))
  go_wp2_with fail
  go_ret
  exact ⟨rfl, HW2.out⟩

theorem PartF.overQ {w w' : World} {B hi n lo hi' : Nat} {T : TypeId} {M : Nat → List Int} (h : PartF w B hi n T M) (hk : Keeps lo hi' w w') (hB : hi' ≤ B) : PartF w' B hi n T M := by
  obtain ⟨C, f, h1, h2, h3, h4⟩ := h
  refine ⟨C, f, (hk.top B hB (row_lt h1)).trans h1, h2, fun j hj => ?_, h4⟩
  obtain ⟨e1, e2, e3, e4⟩ := h3 j hj
  exact ⟨e1, e2, e3, e4.keeps hk (by omega)⟩

theorem PartF.onlyLow {w w' : World} {B hi n b : Nat} {T : TypeId} {M : Nat → List Int} (h : PartF w B hi n T M) (ho : Only b w w') (hb : b < B) : PartF w' B hi n T M := by
  obtain ⟨C, f, h1, h2, h3, h4⟩ := h
  refine ⟨C, f, (ho.block B (by omega)).trans h1, h2, fun j hj => ?_, h4⟩
  obtain ⟨e1, e2, e3, e4⟩ := h3 j hj
  exact ⟨e1, e2, e3, e4.only ho (by omega)⟩

theorem Blk.lowQ {w w' : World} {a : Option Addr} {b n lo : Nat} {xs : List Int} (h : Blk w a b n xs) (hb : Below lo w w') (hB : b < lo) : Blk w' a b n xs := by
  refine ⟨h.1, ?_⟩
  rcases h.2 with h0 | ⟨e, h1⟩
  · exact .inl h0
  · exact .inr ⟨e, (hb.block b hB).trans h1⟩

theorem PartF.lowQ {w w' : World} {B hi n lo : Nat} {T : TypeId} {M : Nat → List Int} (h : PartF w B hi n T M) (hb : Below lo w w') (hB : B < lo) (hh : hi ≤ lo) : PartF w' B hi n T M := by
  obtain ⟨C, f, h1, h2, h3, h4⟩ := h
  refine ⟨C, f, (hb.block B hB).trans h1, h2, fun j hj => ?_, h4⟩
  obtain ⟨e1, e2, e3, e4⟩ := h3 j hj
  exact ⟨e1, e2, e3, e4.lowQ hb (by omega)⟩

/-- w: the world ahead of the law; u: behind the specification's answer and its variable; v: now. -/
structure Sx (w u v : World) (p : Int) (a : Option Addr) (n c B hi bx : Nat) (M : Nat → List Int) (ax : Option Addr) (b1 nm : Nat) (ly : List Int) (gM hj N : Nat) (Mm : Nat → List Int) (aa : Option Addr) (ab A ac : Nat) (xs : List Int) (bg : Nat) : Prop where
  old : Below w.heap.size w v
  mid : Below u.heap.size u v
  par : v.heap[w.heap.size]? = some (.cells #[.int .i64 p, .slice a n c] 24 (0, 0))
  x0 : v.heap[bx]? = some (.cells #[.int .i64 p, .slice (some ⟨B, 0, none⟩) n n] 35 (0, 0))
  net : PartF v B hi (3 * n) 99 M
  x1 : Blk v ax b1 nm ly
  marks : PartF v gM hj N 25 Mm
  arcs : AB v aa ab A xs
  box : v.heap[bg]? = some (.cells #[.slice (some ⟨gM, 0, none⟩) N N, .slice aa A ac] 30 (0, 0))

/-- Where its blocks lie. -/
structure SxAt (w u : World) (B hi bx b1 gM hj ab A bg : Nat) : Prop where
  wB : w.heap.size < B
  uB : u.heap.size ≤ B
  Bh : B < hi
  hx : hi ≤ bx
  xb : bx < b1
  b1M : b1 < gM
  hjb : hj ≤ bg
  Mj : gM < hj
  aM : A ≠ 0 → ab < gM
  ba : A ≠ 0 → b1 < ab

variable {w u v v' : World} {p : Int} {a : Option Addr} {n c B hi bx : Nat} {M : Nat → List Int} {ax : Option Addr} {b1 nm : Nat} {ly l : List Int} {gM hj N : Nat} {Mm : Nat → List Int} {aa : Option Addr} {ab A ac : Nat} {xs : List Int} {bg : Nat}

theorem Sx.grow (h : Sx w u v p a n c B hi bx M ax b1 nm ly gM hj N Mm aa ab A ac xs bg) (hb : Below v.heap.size v v') : Sx w u v' p a n c B hi bx M ax b1 nm ly gM hj N Mm aa ab A ac xs bg :=
  ⟨h.old.trans (hb.mono h.old.size), h.mid.trans (hb.mono h.mid.size), keep h.par hb, keep h.x0 hb, h.net.grow hb, h.x1.grow' hb, h.marks.grow hb, h.arcs.grow hb, keep h.box hb⟩

theorem Sx.markN {M' : Nat → List Int} (h : Sx w u v p a n c B hi bx M ax b1 nm ly gM hj N Mm aa ab A ac xs bg) (q : SxAt w u B hi bx b1 gM hj ab A bg) (hm : PartF v' B hi (3 * n) 99 M') (hk : Keeps (B + 1) hi v v') :
    Sx w u v' p a n c B hi bx M' ax b1 nm ly gM hj N Mm aa ab A ac xs bg := by
  obtain ⟨q1, q2, q3, q4, q5, q6, q7, q8, q9, q10⟩ := q
  exact ⟨h.old.trans (hk.bel.mono (by omega)), h.mid.trans (hk.bel.mono (by omega)), (hk.bel.block _ (by omega)).trans h.par, (hk.top bx (by omega) (row_lt h.x0)).trans h.x0, hm, h.x1.keeps hk (by omega), h.marks.overQ hk (by omega), h.arcs.keepsHigh hk (fun e => by have := q10 e; omega), (hk.top bg (by omega) (row_lt h.box)).trans h.box⟩

theorem Sx.markX (h : Sx w u v p a n c B hi bx M ax b1 nm ly gM hj N Mm aa ab A ac xs bg) (q : SxAt w u B hi bx b1 gM hj ab A bg) (hm : Blk v' ax b1 nm l) (ho : Only b1 v v') :
    Sx w u v' p a n c B hi bx M ax b1 nm l gM hj N Mm aa ab A ac xs bg := by
  obtain ⟨q1, q2, q3, q4, q5, q6, q7, q8, q9, q10⟩ := q
  exact ⟨h.old.trans (ho.below (by omega)), h.mid.trans (ho.below (by omega)), (ho.block _ (by omega)).trans h.par, (ho.block _ (by omega)).trans h.x0, h.net.only ho (by omega) (by omega), hm, h.marks.onlyLow ho (by omega), h.arcs.only ho (fun e => by have := q10 e; omega), (ho.block _ (by omega)).trans h.box⟩

theorem Sx.markM {Mm' : Nat → List Int} (h : Sx w u v p a n c B hi bx M ax b1 nm ly gM hj N Mm aa ab A ac xs bg) (q : SxAt w u B hi bx b1 gM hj ab A bg) (hm : PartF v' gM hj N 25 Mm') (hk : Keeps (gM + 1) hj v v') :
    Sx w u v' p a n c B hi bx M ax b1 nm ly gM hj N Mm' aa ab A ac xs bg := by
  obtain ⟨q1, q2, q3, q4, q5, q6, q7, q8, q9, q10⟩ := q
  exact ⟨h.old.trans (hk.bel.mono (by omega)), h.mid.trans (hk.bel.mono (by omega)), (hk.bel.block _ (by omega)).trans h.par, (hk.bel.block bx (by omega)).trans h.x0, h.net.lowQ hk.bel (by omega) (by omega), h.x1.lowQ hk.bel (by omega), hm, h.arcs.keepsLow hk (fun e => by have := q9 e; omega), (hk.top bg (by omega) (row_lt h.box)).trans h.box⟩

theorem Sx.markA {xs' : List Int} (h : Sx w u v p a n c B hi bx M ax b1 nm ly gM hj N Mm aa ab A ac xs bg) (q : SxAt w u B hi bx b1 gM hj ab A bg) (hA : A ≠ 0) (hm : AB v' aa ab A xs') (ho : Only ab v v') :
    Sx w u v' p a n c B hi bx M ax b1 nm ly gM hj N Mm aa ab A ac xs' bg := by
  obtain ⟨q1, q2, q3, q4, q5, q6, q7, q8, q9, q10⟩ := q
  have := q9 hA
  have := q10 hA
  exact ⟨h.old.trans (ho.below (by omega)), h.mid.trans (ho.below (by omega)), (ho.block _ (by omega)).trans h.par, (ho.block _ (by omega)).trans h.x0, h.net.only ho (by omega) (by omega), h.x1.only ho (by omega), h.marks.onlyLow ho (by omega), hm, (ho.block _ (by omega)).trans h.box⟩
end Go.Proofs.Ytedbihlpggficaa


/- A space in the law's hands is marked and held. -/
namespace Go.Proofs.Ytedbihlpggficaa
open Go.RowKit
set_option maxRecDepth 10000

set_option maxHeartbeats 400000 in
theorem markArc0_any (a : Option Addr) (c k0 : Nat) (w : World) : Calls Try.prog 49 #[.slice a 0 c, .int .i64 (k0 : Int)] w fun e w' => e = .returned (.int .i64 (k0 : Int)) ∧ w' = w := by
  go_enter Try.func49, Try.ntmps49
  go_wp2
  go_loop [1, 5] (fun t i => i = .int .i64 0 ∧ t = .int .i64 (k0 : Int)) (fun _ _ => 0)
  case atStart => exact ⟨rfl, rfl⟩
  case round =>
    obtain ⟨rfl, rfl⟩ := hrel
    go_wp2
    go_ret
    exact ⟨rfl, rfl⟩

variable {w u v v' : World} {p : Int} {a : Option Addr} {n c B hi bx : Nat} {M : Nat → List Int} {ax : Option Addr} {b1 nm : Nat} {ly l : List Int} {gM hj N : Nat} {Mm : Nat → List Int} {aa : Option Addr} {ab A ac : Nat} {xs : List Int} {bg : Nat}

/-- Arcs of the law's state are marked. -/
theorem markArc_st (h : Sx w u v p a n c B hi bx M ax b1 nm ly gM hj N Mm aa ab A ac xs bg) (q : SxAt w u B hi bx b1 gM hj ab A bg) (k0 : Nat) (hA : A ≤ 9600) (hk0 : k0 ≤ 2097152) :
    Calls Try.prog 49 #[.slice aa A ac, .int .i64 (k0 : Int)] v fun e v' => e = .returned (.int .i64 ((k0 + 3 * A : Nat) : Int)) ∧ Sx w u v' p a n c B hi bx M ax b1 nm ly gM hj N Mm aa ab A ac (seqL k0 (3 * A)) bg := by
  by_cases hz : A = 0
  · subst hz
    refine (markArc0_any aa ac k0 v).mono ?_
    rintro e v' ⟨rfl, rfl⟩
    exact ⟨rfl, ⟨h.old, h.mid, h.par, h.x0, h.net, h.x1, h.marks, ⟨by simp [seqL], .inl rfl⟩, h.box⟩⟩
  · refine (markArcS_any aa ab A ac k0 xs v h.arcs hA hk0).mono ?_
    rintro e v' ⟨rfl, hm, ho⟩
    exact ⟨rfl, h.markA q hz hm ho⟩

set_option maxHeartbeats 1000000 in
theorem markSpace_st (h : Sx w u v p a n c B hi bx M ax b1 nm ly gM hj N Mm aa ab A ac xs bg) (q : SxAt w u B hi bx b1 gM hj ab A bg) (hA : A ≤ 9600) (hN : N ≤ 400) (hc : cntF Mm N ≤ 1048576) (k1 k2 : Nat) (hk1 : Hid (1 + cntF Mm N = k1)) (hk2 : Hid (k1 + 3 * A = k2)) :
    Calls Try.prog 19 #[.agg #[.slice (some ⟨gM, 0, none⟩) N N, .slice aa A ac], .int .i64 1] v fun e v' => e = .returned (.int .i64 (k2 : Int)) ∧ Sx w u v' p a n c B hi bx M ax b1 nm ly gM hj N (markedF 1 Mm N) aa ab A ac (seqL k1 (3 * A)) bg := by
  have hAl := below_al v (.cells #[.slice (some ⟨gM, 0, none⟩) N N, .slice aa A ac] 30)
  have H1 := hide (heap_alloc_new v (.cells #[.slice (some ⟨gM, 0, none⟩) N N, .slice aa A ac] 30))
  have ST := hide (h.grow hAl)
  have HQ := hide q
  have hlt := row_lt H1.out
  have hbl := row_lt h.box
  clear h hAl q
  go_enter Try.func19, Try.ntmps19
  go_upto_region 1 with fail
  generalize v.alloc (.cells #[.slice (some ⟨gM, 0, none⟩) N N, .slice aa A ac] 30) = v1 at *
  obtain ⟨hc0, hc1⟩ := cells2 H1.out
  go_wp2_with fail
  refine (markSF_any gM hj N N 1 25 Mm v1 ST.out.marks hc (by omega) (by omega)).mono ?_
  rintro e v2 ⟨rfl, hm, hk⟩
  have ST2 := hide (ST.out.markM HQ.out hm hk)
  have hq := HQ.out.hjb
  have H2 := hide ((hk.top v.heap.size (by omega) hlt).trans H1.out)
  have hk1b : k1 ≤ 2097152 := by have := hk1.out; omega
  rw [hk1.out]
  obtain ⟨hc0', hc1'⟩ := cells2 H2.out
  clear hc0 hc1 hm hk ST hq
  go_wp2_with fail
  refine (markArc_st ST2.out HQ.out k1 hA hk1b).mono ?_
  rintro e v3 ⟨rfl, hst⟩
  have ST3 := hide hst
  rw [hk2.out]
  have hp : (0 : Int) ≤ (k2 : Int) := by omega
  have hp2 : (k2 : Int) ≤ 5242880 := by have := hk2.out; omega
  go_wp2_with fail
  go_ret
  exact ⟨rfl, ST3.out⟩

set_option maxHeartbeats 1000000 in
theorem heldSpace_st (w : World) (hp : PartF w gM hj N 25 (markedF 1 Mm N)) (k1 k2 : Nat) (hk1 : Hid (1 + cntF Mm N = k1)) (hk2 : Hid (k1 + 3 * A = k2)) (ha : AB w aa ab A (seqL k1 (3 * A))) (hA : A ≤ 9600) (hN : N ≤ 400) (hc : cntF Mm N ≤ 1048576) :
    Calls Try.prog 20 #[.agg #[.slice (some ⟨gM, 0, none⟩) N N, .slice aa A ac], .int .i64 1] w fun e w' => e = .returned (.int .i64 (k2 : Int)) ∧ Below w.heap.size w w' := by
  have hAl := below_al w (.cells #[.slice (some ⟨gM, 0, none⟩) N N, .slice aa A ac] 30)
  have H1 := hide (heap_alloc_new w (.cells #[.slice (some ⟨gM, 0, none⟩) N N, .slice aa A ac] 30))
  have HP := hide (hp.grow hAl)
  have HA := hide (ha.grow hAl)
  have HB := hide hAl
  clear hp ha hAl
  go_enter Try.func20, Try.ntmps20
  go_upto_region 1 with fail
  generalize w.alloc (.cells #[.slice (some ⟨gM, 0, none⟩) N N, .slice aa A ac] 30) = w1 at *
  obtain ⟨hc0, hc1⟩ := cells2 H1.out
  go_wp2_with fail
  refine (heldSS_any (some ⟨gM, 0, none⟩) gM hj N N 1 Mm w1 (.inr ⟨rfl, HP.out⟩) hc (by omega) (by omega)).mono ?_
  rintro e w2 ⟨rfl, rfl⟩
  have hk1b : k1 ≤ 2097152 := by have := hk1.out; omega
  have HA2 := HA.out
  rw [hk1.out]
  have hk1n : ¬ ((k1 : Nat) : Int) < 0 := by omega
  have HH := hide (heldArcS_any aa ab A ac k1 w2 HA2 hA hk1b)
  clear HA2
  go_wp2_with fail
  refine HH.out.mono ?_
  rintro e w3 ⟨rfl, rfl⟩
  rw [hk2.out]
  have hp : (0 : Int) ≤ (k2 : Int) := by omega
  have hpn : ¬ (k2 : Int) < 0 := by omega
  go_wp2_with fail
  go_ret
  exact ⟨rfl, HB.out⟩

theorem cntF_le16 {M : Nat → List Int} : ∀ n, (∀ k, k < n → (M k).length ≤ 16) → cntF M n ≤ 16 * n := by
  intro n
  induction n with
  | zero => intro _; exact Nat.le_refl _
  | succ n ih =>
    intro h
    have h1 := ih fun k hk => h k (by omega)
    have h2 := h n (by omega)
    rw [show cntF M (n + 1) = cntF M n + (M n).length from rfl]
    omega

theorem PartF.lists1Q {w : World} {B hi n : Nat} {T : TypeId} {L : List (List Int)} (h : PartF w B hi n T (fun j => L.getD j [])) (hl : L.length = n) (hs : sizeN n L ≤ 1048576) : Lists w (some ⟨B, 0, none⟩) n L := by
  obtain ⟨C, f, h1, h2, h3, h4⟩ := h
  refine ⟨hl, .inr ⟨B, 0, rfl, (Array.getElem?_eq_some_iff.mp h1).1, fun j hj => ?_⟩⟩
  obtain ⟨e1, e2, e3, e4⟩ := h3 j hj
  refine ⟨_, _, _, by rw [cell_of_row w B (0 + j) C T _ h1, Nat.zero_add]; exact e1, ?_, e4.row⟩
  have := len_le L j
  show (L.getD j []).length ≤ maxLen
  unfold sizeN at hs; unfold maxLen; omega

/-- What is known of the answer of Explore. -/
theorem xp_size (p : Int) (n : Nat) (L : List (List Int)) (ys : List Int) (bg : Int) : (xpMs p n L ys bg).length ≤ 400 ∧ (xpAr p n L ys bg).length ≤ 9600 ∧ ∀ m ∈ xpMs p n L ys bg, m.length ≤ 16 := by
  by_cases hc : spCode p n L ys bg = 1
  · have ha : askB p n L ys bg = true := by
      cases hx : askB p n L ys bg
      · unfold spCode at hc; rw [hx] at hc; simp at hc
      · rfl
    unfold askB at ha
    rw [Bool.and_eq_true, Bool.and_eq_true] at ha
    have hb : 1 ≤ bg ∧ bg ≤ 400 := by simpa [inB] using ha.2
    unfold xpMs xpAr
    rw [if_pos hc, if_pos hc]
    cases hs : searchS p n L bg.toNat ys with
    | error c => unfold spSea; rw [hs]; simp [endS]
    | ok s =>
      have e : spSea p n L ys bg = s := by unfold spSea; rw [hs]; rfl
      rw [e]
      obtain ⟨hok, hlen, _⟩ := seaS_ok (SeaOk.start (n := n) (show 1 ≤ bg.toNat by omega) ha.1.2) hs
      have hn := netOkN ha.1.1
      have h4 : bg.toNat ≤ 400 := by omega
      have hmul : bg.toNat * n ≤ 400 * 24 := Nat.mul_le_mul h4 hn
      refine ⟨Nat.le_trans hok.le h4, by simp [sea0] at hlen; omega, fun m hm => ?_⟩
      obtain ⟨h1, h2, _⟩ := goodB_parts (hok.good m hm)
      omega
  · obtain ⟨e1, e2⟩ := xpMs_no hc
    rw [e1, e2]; simp

theorem sizeL_le16 {R : List (List Int)} (h : ∀ x ∈ R, x.length ≤ 16) : sizeL R ≤ 16 * R.length := by
  induction R with
  | nil => simp [sizeL]
  | cons x R ih =>
    have h1 := h x (by simp)
    have h2 := ih fun y hy => h y (by simp [hy])
    unfold sizeL at *
    simp only [List.map_cons, List.sum_cons, List.length_cons]
    omega
end Go.Proofs.Ytedbihlpggficaa
