/- sameNet: two nets of the same lists. -/
import Derived.Test.YtbobppcnmpiacaaSi
import Derived.Test.YtbobppcnmpiacaaOn
import Derived.Test.YtbobppcnmpiacaaTo
namespace Go.Proofs.Ytbobppcnmpiacaa
open Go.RowKit
set_option maxRecDepth 10000

theorem tri_len {L : List (List Int)} {n j : Nat} (hs : sizeN n L ≤ 1048576) {x : List Int} (hx : L.getD j [] = x) : x.length ≤ 1048576 := by
  have := len_le L j
  unfold sizeN at hs
  rw [hx] at this
  omega

set_option maxHeartbeats 1000000 in
theorem sameNet_any (p : Int) (a d : Option Addr) (n c e : Nat) (L : List (List Int)) (w : World) (h : Lists w a (3 * n) L) (g : Lists w d (3 * n) L) (hs : sizeN n L ≤ 1048576) :
    Calls Try.prog 22 #[.agg #[.int .i64 p, .slice a n c], .agg #[.int .i64 p, .slice d n e]] w fun e w' => e = .returned (.bool true) ∧ Below w.heap.size w w' := by
  have hn : n ≤ 1048576 := by unfold sizeN at hs; omega
  have hne : ((n : Int) != (n : Int)) = false := by simp
  have hnp : (p != p) = false := by simp
  have hA := below_al w (.cells #[.int .i64 p, .slice a n c] 26)
  have hA2 := below_al (w.alloc (.cells #[.int .i64 p, .slice a n c] 26)) (.cells #[.int .i64 p, .slice d n e] 26)
  have HB := hide (hA.trans (hA2.mono hA.size))
  have H1 := hide (keep (heap_alloc_new w (.cells #[.int .i64 p, .slice a n c] 26)) hA2)
  have H2 : Hid (((w.alloc (.cells #[.int .i64 p, .slice a n c] 26)).alloc (.cells #[.int .i64 p, .slice d n e] 26)).heap[w.heap.size + 1]? = some (.cells #[.int .i64 p, .slice d n e] 26 (0, 0))) := by
    show (World.alloc _ _).heap[w.heap.size + 1]? = _
    have := heap_alloc_new (w.alloc (.cells #[.int .i64 p, .slice a n c] 26)) (.cells #[.int .i64 p, .slice d n e] 26)
    rw [show (w.alloc (.cells #[.int .i64 p, .slice a n c] 26)).heap.size = w.heap.size + 1 by simp] at this
    exact this
  have HL := hide (h.below HB.out)
  have HG := hide (g.below HB.out)
  have HS := hide hs
  clear h g hA hA2 hs
  go_enter Try.func22, Try.ntmps22
  go_wp2_with fail
  generalize (w.alloc (.cells #[.int .i64 p, .slice a n c] 26)).alloc (.cells #[.int .i64 p, .slice d n e] 26) = W0 at *
  go_loopw [25] (fun i wr => ∃ k : Nat, k ≤ n ∧ i = .int .i64 k ∧ Hid (Below W0.heap.size W0 wr)) (fun i _ => n - (intOf i).toNat)
  case atStart => exact ⟨0, Nat.zero_le _, rfl, Below.refl _ _⟩
  case round =>
    obtain ⟨k, hk, rfl, hbw⟩ := hrel
    clear hne hnp
    by_cases hlt : k < n
    rotate_left
    · have hk' : k = n := by omega
      subst hk'
      have HE := hide (HB.out.trans (hbw.out.mono HB.out.size))
      go_wp2_with fail
      go_ret
      exact ⟨rfl, HE.out⟩
    obtain ⟨b, off, s0, l0, q0, s1, l1, q1, s2, l2, q2, rfl, hbz, tri⟩ := (HL.out.below hbw.out).tri hlt
    obtain ⟨b', off', t0, m0, r0, t1, m1, r1, t2, m2, r2, rfl, hbz', tri'⟩ := (HG.out.below hbw.out).tri hlt
    have hx0 : wr.cell? ⟨b, off + k * 3, none⟩ = some (.slice s0 l0 q0) := tri.1 0 _ rfl
    have hx1 : wr.cell? ⟨b, off + k * 3 + 1, none⟩ = some (.slice s1 l1 q1) := tri.1 1 _ rfl
    have hx2 : wr.cell? ⟨b, off + k * 3 + 2, none⟩ = some (.slice s2 l2 q2) := tri.1 2 _ rfl
    have hy0 : wr.cell? ⟨b', off' + k * 3, none⟩ = some (.slice t0 m0 r0) := tri'.1 0 _ rfl
    have hy1 : wr.cell? ⟨b', off' + k * 3 + 1, none⟩ = some (.slice t1 m1 r1) := tri'.1 1 _ rfl
    have hy2 : wr.cell? ⟨b', off' + k * 3 + 2, none⟩ = some (.slice t2 m2 r2) := tri'.1 2 _ rfl
    obtain ⟨_, _, _, _, u0, u1, u2⟩ := tri
    obtain ⟨_, _, _, _, v0, v1, v2⟩ := tri'
    obtain ⟨hb0, hb1⟩ := cells2 (keep H2.out hbw.out)
    have hlb := row_lt (keep H2.out hbw.out)
    have z0 := tri_len HS.out (L := L) (n := n) (j := 3 * k) rfl
    have z1 := tri_len HS.out (L := L) (n := n) (j := 3 * k + 1) rfl
    have z2 := tri_len HS.out (L := L) (n := n) (j := 3 * k + 2) rfl
    generalize L.getD (3 * k) [] = x0 at *
    generalize L.getD (3 * k + 1) [] = x1 at *
    generalize L.getD (3 * k + 2) [] = x2 at *
    have hB1 := below_al wr (.cells #[.slice s0 l0 q0, .slice s1 l1 q1, .slice s2 l2 q2] 39)
    have hB2 := below_al (wr.alloc (.cells #[.slice s0 l0 q0, .slice s1 l1 q1, .slice s2 l2 q2] 39)) (.cells #[.slice t0 m0 r0, .slice t1 m1 r1, .slice t2 m2 r2] 39)
    have HBB := hide (hB1.trans (hB2.mono hB1.size))
    have e0 := u0.1
    have e1 := u1.1
    have e2 := u2.1
    have h0 := sameB_self x0
    have h1 := sameB_self x1
    have h2 := sameB_self x2
    have HC0 := hide (fun v (hb : Below wr.heap.size wr v) => sameI_any s0 t0 l0 m0 q0 r0 x0 x0 v (u0.below hb) (v0.below hb) (by omega))
    have HC1 := hide (fun v (hb : Below wr.heap.size wr v) => sameI_any s1 t1 l1 m1 q1 r1 x1 x1 v (u1.below hb) (v1.below hb) (by omega))
    have HC2 := hide (fun v (hb : Below wr.heap.size wr v) => sameI_any s2 t2 l2 m2 q2 r2 x2 x2 v (u2.below hb) (v2.below hb) (by omega))
    rw [h0] at HC0
    rw [h1] at HC1
    rw [h2] at HC2
    clear u0 u1 u2 v0 v1 v2 e0 e1 e2 z0 z1 z2 h0 h1 h2 hB1 hB2
    go_wp2_with fail
    refine (HC0.out _ HBB.out).mono ?_
    rintro e w1 ⟨rfl, qa, rfl⟩
    go_wp2_with fail
    refine (HC1.out _ (HBB.out.trans ((below_drewN' _ qa).mono HBB.out.size))).mono ?_
    rintro e w2 ⟨rfl, qb, rfl⟩
    go_wp2_with fail
    refine (HC2.out _ (HBB.out.trans ((below_drewN' _ (qa + qb)).mono HBB.out.size))).mono ?_
    rintro e w3 ⟨rfl, qc, rfl⟩
    have HBF := hide (hbw.out.trans ((HBB.out.trans ((below_drewN' _ (qa + qb + qc)).mono HBB.out.size)).mono hbw.out.size))
    clear hx0 hx1 hx2 hy0 hy1 hy2 HC0 HC1 HC2
    go_wp2_with fail
    go_roundw
    case rel => exact ⟨k + 1, by omega, by go_num, HBF⟩
    case measure => simp [intOf]; omega
end Go.Proofs.Ytbobppcnmpiacaa
