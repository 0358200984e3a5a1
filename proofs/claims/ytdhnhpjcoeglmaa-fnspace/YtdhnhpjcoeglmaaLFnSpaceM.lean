/- Proved: for every two lists of bytes, in whatever memory, the law FnSpace returns true and leaves its arguments as they were; no condition. -/
import Derived.Test.YtdhnhpjcoeglmaaP27
import Derived.Deep.RegionHeld3
import Derived.WalkKit
import Derived.ProofKit
import Derived.OpenShut
import Derived.ShutString
import Derived.ChangeOld
import Derived.Below
namespace Go.Proofs.Ytdhnhpjcoeglmaa.fnSpace
open Go.ChangeShapes Go.WideShapes Go.ChangeAt Go.RowKit
open Go.ChangeMaps (open_string shut_string)
set_option linter.unusedVariables false

theorem own : ownKnob Try.prog.godebug = none := by kernel_rfl
theorem laidOut : laidOutB Try.prog = true := by kernel_rfl

/-- WHAT THE WALK IS TOLD OF A SLICE OF INTEGERS THAT CAME IN: it is nil; or it leads to a row of 'cap' cells, the numbers 'zs' (the first 'len' are its elements, the rest its spare room), each fitting its kind. -/
def IsRow (k : IntKind) (w : World) (a : Option Addr) (len cap : Nat) (zs : List Int) : Prop :=
  (a = none ∧ len = 0 ∧ cap = 0 ∧ zs = []) ∨
  ∃ x, a = some x ∧ len ≤ cap ∧ cap ≤ maxLen ∧ zs.length = cap ∧ (∀ i, i < zs.length → w.cell? (x.add i) = some (.int k (zs.getD i 0))) ∧ ∀ n ∈ zs, (Lit.int k n).wf = true

theorem rowOf {w : World} {a : Option Addr} {len cap : Nat} {zs : List Int} (h : IsRow .u8 w a len cap zs) : RowB w a len (zs.take len) ∧ len ≤ maxLen := by
  rcases h with ⟨rfl, rfl, rfl, rfl⟩ | ⟨x, rfl, hl, hm, hz, hcell, hwz⟩
  · exact ⟨⟨rfl, fun i => by simp, .inl rfl⟩, by unfold maxLen; omega⟩
  · refine ⟨⟨by rw [List.length_take]; omega, fun i => ?_, ?_⟩, by omega⟩
    · rw [List.getD_eq_getElem?_getD]
      by_cases hi : i < (zs.take len).length
      · rw [List.getElem?_eq_getElem hi]
        have := hwz _ (List.mem_of_mem_take (List.getElem_mem hi))
        have := bounds_u8 this
        simpa using this
      · rw [List.getElem?_eq_none (by omega)]; simp
    · by_cases h0 : len = 0
      · exact .inl h0
      · obtain ⟨b, off, spot⟩ := x
        have hc := hcell 0 (by omega)
        have hspot : spot = none := by simpa [Addr.add] using World.cell?_spot hc
        subst hspot
        refine .inr ⟨b, off, rfl, ?_, fun i hi => ?_⟩
        · have := block_lt_of_cell hc; simpa [Addr.add] using this
        · have := hcell i (by omega)
          rw [List.getD_eq_getElem?_getD, List.getElem?_take_of_lt hi, ← List.getD_eq_getElem?_getD]
          have ea : (⟨b, off, none⟩ : Addr).add i = ⟨b, off + i, none⟩ := by unfold Addr.add; split <;> simp_all
          rw [ea] at this
          exact this


/-- What the law keeps in mind: the net, the rows, the space. -/
structure SpcSt (w v : World) (V : Nat) (pl : Int) (a : Option Addr) (k c : Nat) (L : List (List Int)) (rows : List (Option Addr × Nat × List Int)) (ma : Option Addr) (mn : Nat) (cs : List Int) (SB : Nat) (sa : Option Addr) (N sc : Nat) (aa : Option Addr) (K ac : Nat) (ms : List (List Int)) (ar : List (Nat × Nat × Nat)) : Prop where
  m : Mst w v V pl a k c L rows ma mn cs
  box : v.heap[SB]? = some (.cells #[.slice sa N sc, .slice aa K ac] 61 (0, 0))
  marks : Lists v sa N ms
  arcs : ∃ B, v.ownsRow B 66 3 (.slice aa K ac) K (arcsL ar)

theorem keepB6V {W W' : World} {a1 a2 a3 a4 a5 a6 : Addr} {v1 v2 v3 v4 v5 v6 : Value} (hb : Below W.heap.size W W') (h : W.cell? a1 = some v1 ∧ W.cell? a2 = some v2 ∧ W.cell? a3 = some v3 ∧ W.cell? a4 = some v4 ∧ W.cell? a5 = some v5 ∧ W.cell? a6 = some v6) : W'.cell? a1 = some v1 ∧ W'.cell? a2 = some v2 ∧ W'.cell? a3 = some v3 ∧ W'.cell? a4 = some v4 ∧ W'.cell? a5 = some v5 ∧ W'.cell? a6 = some v6 :=
  ⟨(hb.cell (World.block_lt_of_cell? _ _ h.1)).trans h.1, (hb.cell (World.block_lt_of_cell? _ _ h.2.1)).trans h.2.1, (hb.cell (World.block_lt_of_cell? _ _ h.2.2.1)).trans h.2.2.1, (hb.cell (World.block_lt_of_cell? _ _ h.2.2.2.1)).trans h.2.2.2.1, (hb.cell (World.block_lt_of_cell? _ _ h.2.2.2.2.1)).trans h.2.2.2.2.1, (hb.cell (World.block_lt_of_cell? _ _ h.2.2.2.2.2)).trans h.2.2.2.2.2⟩
theorem keepB4V {W W' : World} {a1 a2 a3 a4 : Addr} {v1 v2 v3 v4 : Value} (hb : Below W.heap.size W W') (h : W.cell? a1 = some v1 ∧ W.cell? a2 = some v2 ∧ W.cell? a3 = some v3 ∧ W.cell? a4 = some v4) : W'.cell? a1 = some v1 ∧ W'.cell? a2 = some v2 ∧ W'.cell? a3 = some v3 ∧ W'.cell? a4 = some v4 :=
  ⟨(hb.cell (World.block_lt_of_cell? _ _ h.1)).trans h.1, (hb.cell (World.block_lt_of_cell? _ _ h.2.1)).trans h.2.1, (hb.cell (World.block_lt_of_cell? _ _ h.2.2.1)).trans h.2.2.1, (hb.cell (World.block_lt_of_cell? _ _ h.2.2.2)).trans h.2.2.2⟩

section
variable {w v v' : World} {V : Nat} {pl : Int} {a : Option Addr} {k c : Nat} {L : List (List Int)} {rows : List (Option Addr × Nat × List Int)} {ma : Option Addr} {mn : Nat} {cs : List Int} {SB : Nat} {sa : Option Addr} {N sc : Nat} {aa : Option Addr} {K ac : Nat} {ms : List (List Int)} {ar : List (Nat × Nat × Nat)}
theorem SpcSt.grow (h : SpcSt w v V pl a k c L rows ma mn cs SB sa N sc aa K ac ms ar) (hb : Below v.heap.size v v') : SpcSt w v' V pl a k c L rows ma mn cs SB sa N sc aa K ac ms ar := by
  obtain ⟨B, hB⟩ := h.arcs
  exact ⟨h.m.grow hb, keep h.box hb, h.marks.below hb, ⟨B, ownsRow_kept hB fun gg hg => hb.block gg (own_lt hB hg).2⟩⟩
theorem SpcSt.add (h : SpcSt w v V pl a k c L rows ma mn cs SB sa N sc aa K ac ms ar) {b : Option Addr} {n : Nat} {xs : List Int} (hr : Row v b n xs) : SpcSt w v V pl a k c L ((b, n, xs) :: rows) ma mn cs SB sa N sc aa K ac ms ar := ⟨h.m.add hr, h.box, h.marks, h.arcs⟩
end

set_option maxRecDepth 100000 in
set_option maxHeartbeats 8000000 in
theorem walk (a0 : Option Addr) (len0 cap0 : Nat) (z0 : List Int) (a1 : Option Addr) (len1 cap1 : Nat) (z1 : List Int) (w : World) (w0 : IsRow .u8 w a0 len0 cap0 z0) (w1 : IsRow .u8 w a1 len1 cap1 z1) :
    Calls Try.prog 6 #[.slice a0 len0 cap0, .slice a1 len1 cap1] w fun e w' => e = .returned (.bool true) ∧ Below w.heap.size w w' := by
  have hr := rowOf w0
  have hr2 := rowOf w1
  generalize z0.take len0 = bs at hr
  generalize z1.take len1 = cs at hr2
  obtain ⟨hr, hl0⟩ := hr
  obtain ⟨hr2, hl1⟩ := hr2
  have HR := hide hr
  have HR2 := hide hr2
  unfold maxLen at hl0 hl1
  clear w0 w1 hr hr2
  have hbb : ∀ b : Bool, (b != b) = false := by simp
  go_enter Try.func6, Try.ntmps6
  go_wp2_with fail
  refine (big_any _ _ _ _ _ _ _ hl0 hl1).mono ?_
  rintro e v0 ⟨r, rfl, hbig, rfl⟩
  cases r
  rotate_left
  · go_wp2_with fail
    go_ret
    exact ⟨rfl, Below.refl _ _⟩
  have hn0 := (hbig.out rfl).1
  have hn1 := (hbig.out rfl).2
  clear hbig
  go_wp2_with fail
  refine (drawXp_any _ _ _ bs _ HR.out hn0).mono ?_
  rintro e v1 ⟨pl, a, k, c, L, b, n, d, xs, bg, rfl, hpl, hk, hsz, hn, hstab, hb, hbg⟩
  obtain ⟨m, rfl⟩ : ∃ m : Nat, pl = (m : Int) := ⟨pl.toNat, by omega⟩
  obtain ⟨hlists, hrow⟩ := hstab v1 (Nat.le_refl _) (fun _ _ _ => rfl)
  have hA := below_al v1 (.cells #[.int .i64 (m : Int), .slice a k c] 26)
  have S1 : Hid (Mst v0 (v1.alloc (.cells #[.int .i64 (m : Int), .slice a k c] 26)) v1.heap.size (m : Int) a k c L [(b, n, xs)] a1 len1 cs) :=
    ⟨hb.trans (hA.mono hb.size), heap_alloc_new _ _, hlists.below hA, Rs.cons (hrow.below hA) (Rs.nil _), (HR2.out.below hb).below hA⟩
  clear hlists hrow hb hA HR HR2 hstab
  have hsz2 : sizeN k L ≤ 1048576 := by omega
  have hn2 : n ≤ 1048576 := by omega
  obtain ⟨hN4, hK9, hM16⟩ := xp_size (m : Int) k L xs bg
  have HCD : Hid (spCode (m : Int) k L xs bg = 1 → xpMs (m : Int) k L xs bg = (spSea (m : Int) k L xs bg).ms ∧ xpAr (m : Int) k L xs bg = (spSea (m : Int) k L xs bg).ar) := fun h => by unfold xpMs xpAr; rw [if_pos h, if_pos h]; exact ⟨rfl, rfl⟩
  obtain ⟨ms, hms⟩ : ∃ ms, Hid (xpMs (m : Int) k L xs bg = ms) := ⟨_, rfl⟩
  obtain ⟨ar, har⟩ : ∃ ar, Hid (xpAr (m : Int) k L xs bg = ar) := ⟨_, rfl⟩
  obtain ⟨ok, hok⟩ : ∃ g, Hid (askB (m : Int) k L xs bg = g) := ⟨_, rfl⟩
  obtain ⟨cd, hcd⟩ : ∃ g, Hid (spCode (m : Int) k L xs bg = g) := ⟨_, rfl⟩
  rw [hms.out] at hN4 hM16 HCD
  rw [har.out] at hK9 HCD
  have HZ := hide (show sizeN ms.length ms ≤ 1048576 by have := sizeL_le16 hM16; unfold sizeN; omega)
  obtain ⟨N, hNN⟩ : ∃ N, Hid (ms.length = N) := ⟨_, rfl⟩
  obtain ⟨K, hKK⟩ : ∃ K, Hid (ar.length = K) := ⟨_, rfl⟩
  rw [hNN.out] at hN4 HZ
  rw [hKK.out] at hK9
  go_wp2_with fail
  generalize v1.alloc (.cells #[.int .i64 (m : Int), .slice a k c] 26) = W1 at S1 ⊢
  generalize v1.heap.size = V at S1 ⊢
  refine (exploreI_any _ _ _ _ _ _ _ L xs bg _ S1.out.net (S1.out.rows.at b n xs (by simp)) hsz2 hn2).mono ?_
  unfold XiEnd
  rw [hms.out, har.out, hcd.out, hok.out, hNN.out, hKK.out]
  rintro e v2 ⟨M, aa, ac, rfl, _, hpart, hown, _, hb⟩
  have hLM := hpart.lists1 hNN.out HZ.out
  have hA := below_al v2 (.cells #[.slice (some ⟨M, 0, none⟩) N N, .slice aa K ac] 61)
  have S2 : Hid (SpcSt v0 (v2.alloc (.cells #[.slice (some ⟨M, 0, none⟩) N N, .slice aa K ac] 61)) V (m : Int) a k c L [(b, n, xs)] a1 len1 cs v2.heap.size (some ⟨M, 0, none⟩) N N aa K ac ms ar) :=
    ⟨(S1.out.grow hb).grow hA, heap_alloc_new _ _, hLM.below hA, ⟨_, ownsRow_kept hown fun gg hg => hA.block gg (own_lt hown hg).2⟩⟩
  clear hb hA hpart hown hLM S1
  have hc0 := S2.out.m.c0
  have hc1 := S2.out.m.c1
  go_wp2_with fail
  generalize v2.alloc (.cells #[.slice (some ⟨M, 0, none⟩) N N, .slice aa K ac] 61) = W2 at *
  generalize v2.heap.size = SB at *
  clear v2
  refine (exploreS_end _ _ _ _ _ _ _ L xs bg _ S2.out.m.net (S2.out.m.rows.at b n xs (by simp)) hsz2 hn2).mono ?_
  unfold XsEnd
  rw [hms.out, har.out, hcd.out, hok.out, hNN.out, hKK.out]
  rintro e v3 ⟨mb, mc, ab, ad, rfl, hLS, ⟨B2, hown⟩, hb⟩
  have hA := below_al v3 (.cells #[.slice mb N mc, .slice ab K ad] 61)
  have S3 := hide ((S2.out.grow hb).grow hA)
  have HX3 := hide (heap_alloc_new v3 (.cells #[.slice mb N mc, .slice ab K ad] 61))
  obtain ⟨B1, hB1⟩ := S3.out.arcs
  have HSS := hide (sameSpace_any (some ⟨M, 0, none⟩) mb aa ab N K N mc ac ad B1 B2 ms ar _ S3.out.marks (hLS.below hA) hB1 (ownsRow_kept hown fun gg hg => hA.block gg (own_lt hown hg).2) hKK.out.symm hK9 HZ.out)
  clear hb hA hLS hown S2 hc0 hc1 hB1
  obtain ⟨hb0, hb1⟩ := cells2 S3.out.box
  obtain ⟨hx0, hx1⟩ := cells2 HX3.out
  have hbok : (ok != ok) = false := by simp
  have hcdn : ((cd : Int) != (cd : Int)) = false := by simp
  go_wp2_with fail
  generalize v3.alloc (.cells #[.slice mb N mc, .slice ab K ad] 61) = W3 at *
  generalize v3.heap.size = SC at *
  clear v3
  refine HSS.out.mono ?_
  rintro e v4 ⟨rfl, hb⟩
  have S4 := hide (S3.out.grow hb)
  clear hb S3 HSS HX3 hb0 hb1 hx0 hx1
  by_cases hcode : cd = 1
  rotate_left
  · have hci : ((cd : Int) != 1) = true := by simp; omega
    cases ok
    all_goals go_wp2_with fail
    all_goals go_ret
    all_goals exact ⟨rfl, S4.out.m.old⟩
  subst hcode
  have hok1 : ok = true := by
    cases ok
    · exfalso
      have h1 := hcd.out
      unfold spCode at h1
      rw [hok.out] at h1
      simp at h1
    · rfl
  subst hok1
  obtain ⟨e1, e2⟩ := HCD.out hcd.out
  have HT := hide (tree_of hcd.out)
  obtain ⟨hb0, hb1⟩ := cells2 S4.out.box
  go_wp2_with fail
  clear hb0 hb1
  go_loopw [80] (fun i wr => ∃ j : Nat, j ≤ K ∧ i = .int .i64 (j : Int) ∧ Hid (SpcSt v0 wr V (m : Int) a k c L [(b, n, xs)] a1 len1 cs SB (some ⟨M, 0, none⟩) N N aa K ac ms ar)) (fun i _ => K - (intOf i).toNat)
  case atStart => exact ⟨0, Nat.zero_le _, rfl, S4⟩
  case round =>
    obtain ⟨j, hj, rfl, S5⟩ := hrel
    clear S4
    by_cases hlt : j < K
    · have hlti : (j : Int) < (K : Int) := by omega
      obtain ⟨x, y, z, hxy, hmem⟩ := arc_get (show j < ar.length by rw [hKK.out]; exact hlt)
      have hmem2 : (x, y, z) ∈ (spSea (m : Int) k L xs bg).ar := by rw [← e2]; exact hmem
      obtain ⟨f1, f2⟩ := arc_fires HT.out hmem2
      obtain ⟨hxN, hyk, hzN⟩ := HT.out.told.ok.arc _ hmem2
      rw [← e1] at f1 f2 hxN hzN
      have f1 : fireOk (m : Int) k L (ms.getD x []) (y : Int) = true := f1
      have f2 : fireR (m : Int) k L (ms.getD x []) (y : Int) = ms.getD z [] := f2
      have hxN : x < N := by rw [← hNN.out]; exact hxN
      have hzN : z < N := by rw [← hNN.out]; exact hzN
      have HF1 := hide f1
      have HF2 := hide f2
      obtain ⟨B1, hB1⟩ := S5.out.arcs
      obtain ⟨ga, rfl, q0, q1, q2⟩ := arcs_at hB1 hlt hxy
      obtain ⟨hb0, hb1⟩ := cells2 S5.out.box
      clear hB1 hmem hmem2 hxy f1 f2
      go_wp2_with fail
      have hA := below_al wr (.cells #[.int .i64 (x : Int), .int .i64 (y : Int), .int .i64 (z : Int)] 66)
      have S6 := hide (S5.out.grow hA)
      have HAB := hide (heap_alloc_new wr (.cells #[.int .i64 (x : Int), .int .i64 (y : Int), .int .i64 (z : Int)] 66))
      clear S5 hA q0 q1 q2 hb0 hb1
      generalize wr.alloc (.cells #[.int .i64 (x : Int), .int .i64 (y : Int), .int .i64 (z : Int)] 66) = w5 at *
      generalize wr.heap.size = AB at *
      clear wr
      have hc0 := S6.out.m.c0
      have hc1 := S6.out.m.c1
      obtain ⟨hb0, _⟩ := cells2 S6.out.box
      obtain ⟨ha0, ha1, ha2⟩ := cells3J HAB.out
      obtain ⟨bm, om, ax, nx, cx, ex, _, hcx, _, rx⟩ := S6.out.marks.at hxN
      cases ex
      rw [Nat.zero_add] at hcx
      have HRX := hide rx
      have hxi : (x : Int) < (N : Int) := by omega
      have hzi : (z : Int) < (N : Int) := by omega
      have hxp : (0 : Int) ≤ (x : Int) := by omega
      have hzp : (0 : Int) ≤ (z : Int) := by omega
      have hnx : nx ≤ 16 := by
        have h1 := rx.1
        have h2 := hM16 (ms.getD x []) (by rw [List.getD_eq_getElem?_getD, List.getElem?_eq_getElem (by rw [hNN.out]; exact hxN)]; exact List.getElem_mem _)
        omega
      have S6d := hide (S6.out.grow (Below.refl _ w5).drew)
      have HRXd := hide (HRX.out.below (Below.refl _ w5).drew)
      have h6 : w5.cell? ⟨V, 0, none⟩ = some (.int .i64 (m : Int)) ∧ w5.cell? ⟨V, 1, none⟩ = some (.slice a k c) ∧ w5.cell? ⟨SB, 0, none⟩ = some (.slice (some ⟨M, 0, none⟩) N N) ∧ w5.cell? ⟨AB, 0, none⟩ = some (.int .i64 (x : Int)) ∧ w5.cell? ⟨AB, 1, none⟩ = some (.int .i64 (y : Int)) ∧ w5.cell? ⟨M, x, none⟩ = some (.slice ax nx cx) := ⟨hc0, hc1, hb0, ha0, ha1, hcx⟩
      clear rx
      go_region_held3 (fun W => W.cell? ⟨V, 0, none⟩ = some (.int .i64 (m : Int)) ∧ W.cell? ⟨V, 1, none⟩ = some (.slice a k c) ∧ W.cell? ⟨SB, 0, none⟩ = some (.slice (some ⟨M, 0, none⟩) N N) ∧ W.cell? ⟨AB, 0, none⟩ = some (.int .i64 (x : Int)) ∧ W.cell? ⟨AB, 1, none⟩ = some (.int .i64 (y : Int)) ∧ W.cell? ⟨M, x, none⟩ = some (.slice ax nx cx)) (first | (refine ⟨?_, ?_, ?_, ?_, ?_, ?_⟩ <;> simp only [World.cell?_drew] <;> assumption) | (apply keepB6V; assumption; assumption))
        (first | (go_at_call 14; refine (implFire_any _ _ _ _ _ _ _ L (ms.getD x []) (y : Int) _ ?_ ?_ hsz2 (by omega)).mono ?_; exact S6d.out.m.net; exact HRXd.out; rw [HF1.out, HF2.out]; rintro e w8 ⟨ay, by', ny, rfl, hblk, _, hb8⟩))
      have S7 := hide (S6d.out.grow hb8)
      have HAB8 := hide (keep (show w5.drew.heap[AB]? = _ from HAB.out) hb8)
      have HRY := hide hblk.row
      have hny : ny ≤ 16 := by
        have h1 := hblk.row.1
        have h2 := hM16 (ms.getD z []) (by rw [List.getD_eq_getElem?_getD, List.getElem?_eq_getElem (by rw [hNN.out]; exact hzN)]; exact List.getElem_mem _)
        omega
      clear h6 hblk hb8 S6 S6d HAB HRX HRXd hc0 hc1 hb0 ha0 ha1 ha2 hcx
      obtain ⟨hb0, _⟩ := cells2 S7.out.box
      obtain ⟨ha0, ha1, ha2⟩ := cells3J HAB8.out
      obtain ⟨bm, om, az, nz, cz, ez, _, hcz, _, rz⟩ := S7.out.marks.at hzN
      cases ez
      rw [Nat.zero_add] at hcz
      have HRZ := hide rz
      have hss := sameB_self (ms.getD z [])
      clear rz
      go_wp2_with fail
      refine (sameI_any _ _ _ _ _ _ (ms.getD z []) (ms.getD z []) _ HRY.out HRZ.out (by omega)).mono ?_
      rw [hss]
      rintro e w9 ⟨rfl, q, rfl⟩
      have S8 := hide (S7.out.grow (below_drewN' w8 q))
      clear S7 HAB8 HRY HRZ hb0 ha0 ha1 ha2 hcz
      generalize w8.drewN q = w9 at *
      go_wp2_with fail
      go_roundw
      case rel => exact ⟨j + 1, by omega, by go_num, S8⟩
      case measure => simp [intOf]; omega
    have hnl : ¬ (j : Int) < (K : Int) := by omega
    have hNp : 0 < N := by have := HT.out.told.ok.pos; rw [← e1, hNN.out] at this; exact this
    have hNne : ¬ (N : Int) = 0 := by omega
    have hNbe : ((N : Int) == 0) = false := by simp; omega
    have hNnz : ¬ N = 0 := by omega
    obtain ⟨hb0, _⟩ := cells2 S5.out.box
    have S5d := hide (S5.out.grow (Below.refl _ wr).drew)
    go_wp2_with fail
    go_region_held3 (fun W => W.cell? ⟨SB, 0, none⟩ = some (.slice (some ⟨M, 0, none⟩) N N)) (first | (simp only [World.cell?_drew]; assumption) | assumption)
      (first | (go_at_call 13; refine (number_any _ _ _ cs _ ?_ hn1).mono ?_; exact S5d.out.m.more; rintro e w8 ⟨zn, rfl, hzn, rfl⟩))
    obtain ⟨q, hqm⟩ : ∃ q : Nat, Int.tmod (zn : Int) (N : Int) = (q : Int) := ⟨zn % N, by rw [Int.tmod_eq_emod_of_nonneg (by omega)]; rfl⟩
    have hqN : q < N := by
      have h1 := Int.tmod_lt_of_pos (zn : Int) (show (0 : Int) < (N : Int) by omega)
      omega
    rw [hqm]
    clear hqm S5 hb0
    generalize wr.drew = w9 at *
    obtain ⟨g1, g2, g3⟩ := mark_can hcd.out (i := q) (by rw [← e1, hNN.out]; exact hqN)
    have houts := hide (fun (t : Int) (ht : t ∈ enR (m : Int) k L ((spSea (m : Int) k L xs bg).ms.getD q [])) => out_fires hcd.out (i := q) (by rw [← e1, hNN.out]; exact hqN) ht)
    rw [← e1] at g1 g2 g3 houts
    have hqi : (q : Int) < (N : Int) := by omega
    have hqp : (0 : Int) ≤ (q : Int) := by omega
    obtain ⟨bm, om, aq, nq, cq, eq', _, hcq, _, rq⟩ := S5d.out.marks.at hqN
    cases eq'
    rw [Nat.zero_add] at hcq
    have hnq : nq ≤ 16 := by
      have h1 := rq.1
      have h2 := hM16 (ms.getD q []) (by rw [List.getD_eq_getElem?_getD, List.getElem?_eq_getElem (by rw [hNN.out]; exact hqN)]; exact List.getElem_mem _)
      omega
    have hql := World.block_lt_of_cell? _ _ hcq
    obtain ⟨mq, hmq⟩ : ∃ l, Hid (ms.getD q [] = l) := ⟨_, rfl⟩
    rw [hmq.out] at g1 g2 g3 houts rq
    obtain ⟨er, her⟩ : ∃ l, Hid (enR (m : Int) k L mq = l) := ⟨_, rfl⟩
    have herl : er.length ≤ k := by have := enR_leV (m : Int) k L mq; rw [her.out] at this; exact this
    obtain ⟨gw, hgw⟩ : ∃ g, Hid (wtOk (m : Int) k L xs bg mq = g) := ⟨_, rfl⟩
    obtain ⟨wl, hwl⟩ : ∃ l, Hid (wtR (m : Int) k L xs bg mq = l) := ⟨_, rfl⟩
    have hwll : wl.length ≤ 60 := by have := wtR_len (m : Int) k L xs bg mq; rw [hwl.out] at this; exact this
    have HG1 := hide g1
    have HG2 := hide g2
    have HG3 := hide g3
    have S9 := hide (S5d.out.add rq)
    clear S5d g1 g2 g3 rq
    have hc0 := S9.out.m.c0
    have hc1 := S9.out.m.c1
    obtain ⟨hb0, _⟩ := cells2 S9.out.box
    have S9d := hide (S9.out.grow (Below.refl _ w9).drew)
    have h4 : w9.cell? ⟨V, 0, none⟩ = some (.int .i64 (m : Int)) ∧ w9.cell? ⟨V, 1, none⟩ = some (.slice a k c) ∧ w9.cell? ⟨SB, 0, none⟩ = some (.slice (some ⟨M, 0, none⟩) N N) ∧ w9.cell? ⟨M, q, none⟩ = some (.slice aq nq cq) := ⟨hc0, hc1, hb0, hcq⟩
    go_wp2_with fail
    go_region_held3 (fun W => W.cell? ⟨V, 0, none⟩ = some (.int .i64 (m : Int)) ∧ W.cell? ⟨V, 1, none⟩ = some (.slice a k c) ∧ W.cell? ⟨SB, 0, none⟩ = some (.slice (some ⟨M, 0, none⟩) N N) ∧ W.cell? ⟨M, q, none⟩ = some (.slice aq nq cq)) (first | (refine ⟨?_, ?_, ?_, ?_⟩ <;> simp only [World.cell?_drew] <;> assumption) | (apply keepB4V; assumption; assumption))
      (first | (go_at_call 50; refine (implEn_any _ _ _ _ _ _ _ L mq _ ?_ ?_ hsz2 (by omega)).mono ?_; exact S9d.out.m.net; exact S9d.out.m.rows.at aq nq mq (by simp); rw [HG1.out, her.out]; rintro e w10 ⟨ae, be, ne, ce, rfl, hob, _, hb10⟩))
    have S10 := hide ((S9d.out.grow hb10).add hob.row)
    have hne : ne ≤ 61 := by have := hob.row.1; omega
    have HER : Hid (er.length = ne) := hob.row.1
    have hcq10 := (hb10.cell (p := ⟨M, q, none⟩) (show M < w9.drew.heap.size from hql)).trans hcq
    have hql10 : M < w10.heap.size := Nat.lt_of_lt_of_le hql hb10.size
    clear hob hb10 S9 S9d hc0 hc1 hb0 h4 hcq hql
    have hc0 := S10.out.m.c0
    have hc1 := S10.out.m.c1
    obtain ⟨hb0, _⟩ := cells2 S10.out.box
    have S10d := hide (S10.out.grow (Below.refl _ w10).drew)
    have h4 : w10.cell? ⟨V, 0, none⟩ = some (.int .i64 (m : Int)) ∧ w10.cell? ⟨V, 1, none⟩ = some (.slice a k c) ∧ w10.cell? ⟨SB, 0, none⟩ = some (.slice (some ⟨M, 0, none⟩) N N) ∧ w10.cell? ⟨M, q, none⟩ = some (.slice aq nq cq) := ⟨hc0, hc1, hb0, hcq10⟩
    go_wp2_with fail
    go_region_held3 (fun W => W.cell? ⟨V, 0, none⟩ = some (.int .i64 (m : Int)) ∧ W.cell? ⟨V, 1, none⟩ = some (.slice a k c) ∧ W.cell? ⟨SB, 0, none⟩ = some (.slice (some ⟨M, 0, none⟩) N N) ∧ W.cell? ⟨M, q, none⟩ = some (.slice aq nq cq)) (first | (refine ⟨?_, ?_, ?_, ?_⟩ <;> simp only [World.cell?_drew] <;> assumption) | (apply keepB4V; assumption; assumption))
      (first | (go_at_call 51; refine (waytoI_any _ _ _ _ _ _ _ _ _ _ L xs mq bg _ ?_ ?_ ?_ hsz2 hn2 (by omega)).mono ?_; exact S10d.out.m.net; exact S10d.out.m.rows.at b n xs (by simp); exact S10d.out.m.rows.at aq nq mq (by simp); rw [hgw.out, hwl.out]; rintro e w11 ⟨aw, bw, nw, cw, rfl, hob, _, hb11⟩))
    have S11 := hide ((S10d.out.grow hb11).add hob.row)
    have hnw : nw ≤ 60 := by have := hob.row.1; omega
    have HNW : Hid (wl.length = nw) := hob.row.1
    have hcq11 := (hb11.cell (p := ⟨M, q, none⟩) (show M < w10.drew.heap.size from hql10)).trans hcq10
    have hql11 : M < w11.heap.size := Nat.lt_of_lt_of_le hql10 hb11.size
    clear hob hb11 S10 S10d hc0 hc1 hb0 h4 hcq10 hql10
    have hc0 := S11.out.m.c0
    have hc1 := S11.out.m.c1
    obtain ⟨hb0, _⟩ := cells2 S11.out.box
    have S11d := hide (S11.out.grow (Below.refl _ w11).drew)
    have h4 : w11.cell? ⟨V, 0, none⟩ = some (.int .i64 (m : Int)) ∧ w11.cell? ⟨V, 1, none⟩ = some (.slice a k c) ∧ w11.cell? ⟨SB, 0, none⟩ = some (.slice (some ⟨M, 0, none⟩) N N) ∧ w11.cell? ⟨M, q, none⟩ = some (.slice aq nq cq) := ⟨hc0, hc1, hb0, hcq11⟩
    go_wp2_with fail
    go_region_held3 (fun W => W.cell? ⟨V, 0, none⟩ = some (.int .i64 (m : Int)) ∧ W.cell? ⟨V, 1, none⟩ = some (.slice a k c) ∧ W.cell? ⟨SB, 0, none⟩ = some (.slice (some ⟨M, 0, none⟩) N N) ∧ W.cell? ⟨M, q, none⟩ = some (.slice aq nq cq)) (first | (refine ⟨?_, ?_, ?_, ?_⟩ <;> simp only [World.cell?_drew] <;> assumption) | (apply keepB4V; assumption; assumption))
      (first | (go_at_call 52; refine (canI_any _ _ _ _ _ _ _ _ _ _ L xs mq bg _ ?_ ?_ ?_ hsz2 hn2 (by omega)).mono ?_; exact S11d.out.m.net; exact S11d.out.m.rows.at b n xs (by simp); exact S11d.out.m.rows.at aq nq mq (by simp); unfold CaEnd; rw [HG2.out, HG3.out]; rintro e w12 ⟨rfl, hb12⟩))
    have S12 := hide (S11d.out.grow hb12)
    clear hb12 S11 S11d hc0 hc1 hb0 h4 hcq11 hql11
    go_wp2_with fail
    go_loopw [163] (fun i wr => ∃ j : Nat, j ≤ ne ∧ i = .int .i64 (j : Int) ∧ Hid (SpcSt v0 wr V (m : Int) a k c L [(aw, nw, wl), (ae, ne, er), (aq, nq, mq), (b, n, xs)] a1 len1 cs SB (some ⟨M, 0, none⟩) N N aa K ac ms ar)) (fun i _ => ne - (intOf i).toNat)
    case atStart => exact ⟨0, Nat.zero_le _, rfl, S12⟩
    case round =>
      obtain ⟨j2, hj2, rfl, S13⟩ := hrel
      clear S12
      obtain ⟨bm2, om2, aq2, nq2, cq2, eq2, _, hcq2, _, rq2⟩ := S13.out.marks.at hqN
      cases eq2
      rw [Nat.zero_add] at hcq2
      rw [hmq.out] at rq2
      have hnq2 : nq2 ≤ 16 := by have h1 := rq2.1; have h2 := (S13.out.m.rows.at aq nq mq (by simp)).1; omega
      have HRQ2 := hide rq2
      clear rq2
      by_cases hlt2 : j2 < ne
      · have hlti2 : (j2 : Int) < (ne : Int) := by omega
        obtain ⟨be2, oe2, t, rfl, _, hct, hgt⟩ := (S13.out.m.rows.at ae ne er (by simp)).at hlt2
        obtain ⟨f1, f2⟩ := houts.out t (by rw [her.out]; exact List.mem_of_getElem? hgt)
        obtain ⟨fr, hfr⟩ : ∃ l, Hid (fireR (m : Int) k L mq t = l) := ⟨_, rfl⟩
        rw [hfr.out] at f2
        have HF1 := hide f1
        have HF2 := hide f2
        clear f1 f2 hgt
        go_wp2_with fail
        have hc0 := S13.out.m.c0
        have hc1 := S13.out.m.c1
        obtain ⟨hb0, _⟩ := cells2 S13.out.box
        have S13d := hide (S13.out.grow (Below.refl _ wr).drew)
        have HRQ2d := hide (HRQ2.out.below (Below.refl _ wr).drew)
        have h4 : wr.cell? ⟨V, 0, none⟩ = some (.int .i64 (m : Int)) ∧ wr.cell? ⟨V, 1, none⟩ = some (.slice a k c) ∧ wr.cell? ⟨SB, 0, none⟩ = some (.slice (some ⟨M, 0, none⟩) N N) ∧ wr.cell? ⟨M, q, none⟩ = some (.slice aq2 nq2 cq2) := ⟨hc0, hc1, hb0, hcq2⟩
        go_region_held3 (fun W => W.cell? ⟨V, 0, none⟩ = some (.int .i64 (m : Int)) ∧ W.cell? ⟨V, 1, none⟩ = some (.slice a k c) ∧ W.cell? ⟨SB, 0, none⟩ = some (.slice (some ⟨M, 0, none⟩) N N) ∧ W.cell? ⟨M, q, none⟩ = some (.slice aq2 nq2 cq2)) (first | (refine ⟨?_, ?_, ?_, ?_⟩ <;> simp only [World.cell?_drew] <;> assumption) | (apply keepB4V; assumption; assumption))
          (first | (go_at_call 14; refine (implFire_any _ _ _ _ _ _ _ L mq t _ ?_ ?_ hsz2 (by omega)).mono ?_; exact S13d.out.m.net; exact HRQ2d.out; rw [HF1.out, hfr.out]; rintro e w14 ⟨ay, by', ny, rfl, hblk, _, hb14⟩))
        have S14 := hide (S13d.out.grow hb14)
        have HRY := hide hblk.row
        clear hblk hb14 S13 S13d HRQ2 HRQ2d hc0 hc1 hb0 h4 hcq2 hct
        obtain ⟨hb0, _⟩ := cells2 S14.out.box
        have HHM := hide (hasMark_any (some ⟨M, 0, none⟩) ay N N ny ny ms fr w14 S14.out.marks HRY.out HZ.out HF2.out)
        go_wp2_with fail
        refine HHM.out.mono ?_
        rintro e w15 ⟨rfl, hb15⟩
        have S15 := hide (S14.out.grow hb15)
        clear S14 HHM HRY hb15 hb0
        go_wp2_with fail
        go_roundw
        case rel => exact ⟨j2 + 1, by omega, by go_num, S15⟩
        case measure => simp [intOf]; omega
      have hnl2 : ¬ (j2 : Int) < (ne : Int) := by omega
      cases gw
      · go_wp2_with fail
        go_ret
        exact ⟨rfl, S13.out.m.old⟩
      obtain ⟨f1, f2, f3⟩ := way_fires hgw.out
      rw [hwl.out] at f1 f2 f3
      have hc0 := S13.out.m.c0
      have hc1 := S13.out.m.c1
      go_wp2_with fail
      refine (implFireAll_any _ _ _ _ _ _ _ _ _ _ L xs wl _ S13.out.m.net (S13.out.m.rows.at b n xs (by simp)) (S13.out.m.rows.at aw nw wl (by simp)) hsz2 hn2 (by omega)).mono ?_
      rw [f1, f2, f3, HNW.out]
      rintro e w16 ⟨ay, by', ny, rfl, hblk, _, hb16⟩
      have S16 := hide (S13.out.grow hb16)
      have HRY := hide hblk.row
      have hny : ny ≤ 16 := by have h1 := hblk.row.1; have h2 := HRQ2.out.1; omega
      have hee : ((nw : Int) == (nw : Int)) = true := by simp
      clear hblk hb16 S13 HRQ2 hc0 hc1 hcq2 f1 f2 f3
      obtain ⟨bm3, om3, aq3, nq3, cq3, eq3, _, hcq3, _, rq3⟩ := S16.out.marks.at hqN
      cases eq3
      rw [Nat.zero_add] at hcq3
      rw [hmq.out] at rq3
      have HRQ3 := hide rq3
      obtain ⟨hb0, _⟩ := cells2 S16.out.box
      have hss := sameB_self mq
      clear rq3
      go_wp2_with fail
      refine (sameI_any _ _ _ _ _ _ mq mq _ HRY.out HRQ3.out (by omega)).mono ?_
      rw [hss]
      rintro e w17 ⟨rfl, q17, rfl⟩
      have S17 := hide (S16.out.grow (below_drewN' w16 q17))
      clear S16 HRY HRQ3 hb0 hcq3
      generalize w16.drewN q17 = w17 at *
      go_wp2_with fail
      go_ret
      exact ⟨rfl, S17.out.m.old⟩

/-! ### THE ROW's STEP: WRITTEN OUT: LEAVE IT -/
set_option maxRecDepth 100000 in
theorem lifted (os : Os) (started : os.Started) (H : Type) (enc : TypeId × Value → H) :
    ReturnsInHanded {} Try.checked os 6 .any (Rows.fnSpaceSpec.pre6 enc Try.prog Try.f6 Rows.fnSpaceRow.domain false) (Rows.fnSpaceSpec.post enc Try.prog Try.f6 false true false false) := by
  refine returnsInHanded_of_change (C := Try.checked) own started (by kernel_rfl) Try.func6
    (ChangeSpec.witness6 (enc := enc) (C := Try.checked) false ⟨#[], #[.slice none 0 0, .slice none 0 0], []⟩ 8 (by kernel_rfl) (by kernel_rfl) (by kernel_rfl) (by kernel_rfl)) ?_
  intro W base args ds gs before hval0 hW hcnd _
  have hval : ∀ (j : Nat) t v, Try.f6.params[j]? = some t → args[j]? = some v → Value.okWide Try.prog W .any base t v := hval0
  have hW' := hW
  obtain ⟨p, q, hA0, hV, rfl, hfz, hnd⟩ := hW
  have hA : DataW.TrodAll enc Try.prog W 0 (fun _ => true) true Try.f6.params.toList args.toList ds p := hA0
  rw [Try.params6] at hA hval
  obtain ⟨v0, vs0, d0, ds0, p0, q0, hargs, rfl, rfl, h0, r0⟩ := trodAll_cons hA
  obtain ⟨v1, vs1, d1, ds1, p1, q1, rfl, rfl, rfl, h1, r1⟩ := trodAll_cons r0
  obtain ⟨rfl, rfl, rfl⟩ := trodAll_nil r1
  obtain rfl : args = #[v0, v1] := by cases args; simp_all
  obtain ⟨rfl, rfl⟩ := trodVars_none hV
  obtain ⟨a0, len0, cap0, rfl⟩ := okWide_slice Try.underlying22 (hval 0 22 v0 rfl rfl)
  have k0 := h0
  have lt0 : ∀ x ∈ p0, x.block < W.heap.size := by obtain ⟨m, hm⟩ := k0; exact DataW.trod_lt m _ _ _ hm
  obtain ⟨z0, w0⟩ : ∃ zs, IsRow .u8 W a0 len0 cap0 zs := by
    obtain ⟨fuel, hf⟩ := h0
    rcases open_ints Try.underlying22 Try.underlying5 (by kernel_rfl) hf with ⟨hcs, _⟩ | ⟨x, l, c, zs, hcs, _, hl, hm, hz, _, hcell, hwz⟩
    · simp [Value.cells] at hcs
      obtain ⟨rfl, rfl, rfl⟩ := hcs
      exact ⟨[], .inl ⟨rfl, rfl, rfl, rfl⟩⟩
    · simp [Value.cells] at hcs
      obtain ⟨rfl, rfl, rfl⟩ := hcs
      exact ⟨zs, .inr ⟨_, rfl, hl, hm, by simpa using hz, hcell, hwz⟩⟩
  obtain ⟨a1, len1, cap1, rfl⟩ := okWide_slice Try.underlying22 (hval 1 22 v1 rfl rfl)
  have k1 := h1
  have lt1 : ∀ x ∈ p1, x.block < W.heap.size := by obtain ⟨m, hm⟩ := k1; exact DataW.trod_lt m _ _ _ hm
  obtain ⟨z1, w1⟩ : ∃ zs, IsRow .u8 W a1 len1 cap1 zs := by
    obtain ⟨fuel, hf⟩ := h1
    rcases open_ints Try.underlying22 Try.underlying5 (by kernel_rfl) hf with ⟨hcs, _⟩ | ⟨x, l, c, zs, hcs, _, hl, hm, hz, _, hcell, hwz⟩
    · simp [Value.cells] at hcs
      obtain ⟨rfl, rfl, rfl⟩ := hcs
      exact ⟨[], .inl ⟨rfl, rfl, rfl, rfl⟩⟩
    · simp [Value.cells] at hcs
      obtain ⟨rfl, rfl, rfl⟩ := hcs
      exact ⟨zs, .inr ⟨_, rfl, hl, hm, by simpa using hz, hcell, hwz⟩⟩
  clear hA0 hval0
  refine (walk a0 len0 cap0 z0 a1 len1 cap1 z1 W w0 w1).mono fun e W' ⟨he, bel⟩ => ?_
  subst he
  exact ⟨_, rfl, _, _, _, [], _, [], hW', trodAll_mk1 (shut_bool Try.underlying4 _), (trodAll_cons_mk (Below.trod laidOut (by kernel_rfl) (of_decide_eq_true (by kernel_rfl)) k0 bel lt0) (trodAll_cons_mk (Below.trod laidOut (by kernel_rfl) (of_decide_eq_true (by kernel_rfl)) k1 bel lt1) trodAll_mk0)), rfl, bel.frame _, fun h => by cases h⟩

theorem over : Rows.fnSpaceRow.holds Try.pinned (OpenSpec.ofChange Rows.fnSpaceSpec) :=
  OpenClaim.holds_of_wide 6 Try.f6 rfl rfl rfl rfl rfl rfl rfl ⟨rfl, rfl, rfl, rfl, rfl⟩ rfl rfl rfl rfl rfl (by kernel_rfl) Try.func6 (by kernel_rfl)
    (of_decide_eq_true (by kernel_rfl)) (by unfold Func.isWrapper; first | (rw [if_pos (by decide +kernel)]; kernel_rfl) | (rw [if_neg (by decide +kernel)]; exact ⟨rfl, rfl⟩))
    (fun os started H enc _ => lifted os started H enc)

/-- ████ THE STATEMENT ████ -/
theorem proved : Rows.FnSpaceSaid := over
#print axioms proved
end Go.Proofs.Ytdhnhpjcoeglmaa.fnSpace

namespace Go.Proofs.Ytdhnhpjcoeglmaa
theorem fnSpace_holds : Rows.FnSpaceSaid := fnSpace.proved
end Go.Proofs.Ytdhnhpjcoeglmaa
