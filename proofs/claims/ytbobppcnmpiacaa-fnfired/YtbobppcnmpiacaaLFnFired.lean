/- Proved: for every two lists of bytes, in whatever memory, the law FnFired returns true and leaves its arguments as they were; no condition. -/
import Derived.Test.YtbobppcnmpiacaaFz
import Derived.Test.YtbobppcnmpiacaaMs
import Derived.Test.YtbobppcnmpiacaaDl
import Derived.WalkKit
import Derived.ProofKit
import Derived.OpenShut
import Derived.ShutString
import Derived.ChangeOld
import Derived.Below
namespace Go.Proofs.Ytbobppcnmpiacaa.fnFired
open Go.ChangeShapes Go.WideShapes Go.ChangeAt Go.RowKit
open Go.ChangeMaps (open_string shut_string)
set_option linter.unusedVariables false

theorem own : ownKnob Try.prog.godebug = none := by kernel_rfl
theorem laidOut : laidOutB Try.prog = true := by kernel_rfl

/-- WHAT THE WALK IS TOLD OF A SLICE OF INTEGERS THAT CAME IN: it is nil; or it leads to a row of 'cap' cells, the numbers 'zs' (the first 'len' are its elements, the rest its spare room), each fitting its kind. -/
def IsRow (k : IntKind) (w : World) (a : Option Addr) (len cap : Nat) (zs : List Int) : Prop :=
  (a = none ∧ len = 0 ∧ cap = 0 ∧ zs = []) ∨
  ∃ x, a = some x ∧ len ≤ cap ∧ cap ≤ maxLen ∧ zs.length = cap ∧ (∀ i, i < zs.length → w.cell? (x.add i) = some (.int k (zs.getD i 0))) ∧ ∀ n ∈ zs, (Lit.int k n).wf = true

theorem rowOf {w : World} {a : Option Addr} {len cap : Nat} {zs : List Int} (h : IsRow .u8 w a len cap zs) : RowB w a len (zs.take len) ∧ len ≤ maxLen := by
  rcases h with ⟨rfl, rfl, rfl, rfl⟩ | ⟨x, rfl, hl, hm, hz, hcell, hwz⟩
  · exact ⟨⟨rfl, fun i => by simp, .inl rfl⟩, by unfold maxLen; omega⟩
  · refine ⟨⟨by rw [List.length_take]; omega, fun i => ?_, ?_⟩, by omega⟩
    · rw [List.getD_eq_getElem?_getD]
      by_cases hi : i < (zs.take len).length
      · rw [List.getElem?_eq_getElem hi]
        have := hwz _ (List.mem_of_mem_take (List.getElem_mem hi))
        have := bounds_u8 this
        simpa using this
      · rw [List.getElem?_eq_none (by omega)]; simp
    · by_cases h0 : len = 0
      · exact .inl h0
      · obtain ⟨b, off, spot⟩ := x
        have hc := hcell 0 (by omega)
        have hspot : spot = none := by simpa [Addr.add] using World.cell?_spot hc
        subst hspot
        refine .inr ⟨b, off, rfl, ?_, fun i hi => ?_⟩
        · have := block_lt_of_cell hc; simpa [Addr.add] using this
        · have := hcell i (by omega)
          rw [List.getD_eq_getElem?_getD, List.getElem?_take_of_lt hi, ← List.getD_eq_getElem?_getD]
          have ea : (⟨b, off, none⟩ : Addr).add i = ⟨b, off + i, none⟩ := by unfold Addr.add; split <;> simp_all
          rw [ea] at this
          exact this

theorem keepB2 {W W' : World} {V : Nat} {x y : Value} (hk : Below W.heap.size W W') (h : W.cell? ⟨V, 0, none⟩ = some x ∧ W.cell? ⟨V, 1, none⟩ = some y) : W'.cell? ⟨V, 0, none⟩ = some x ∧ W'.cell? ⟨V, 1, none⟩ = some y :=
  ⟨(hk.cell (World.block_lt_of_cell? _ _ h.1)).trans h.1, (hk.cell (World.block_lt_of_cell? _ _ h.2)).trans h.2⟩

theorem runL_len (p : Int) (n : Nat) (L : List (List Int)) (ys ts : List Int) : (runL p n L ys ts).length ≤ ys.length := by
  induction ts generalizing ys with
  | nil => exact Nat.le_refl _
  | cons t us ih =>
    simp only [runL]
    split
    · have := ih (firedL L ys t); rw [firedL_len] at this; exact this
    · exact Nat.le_refl _
theorem faR_len (p : Int) (n : Nat) (L : List (List Int)) (ys ts : List Int) : (faR p n L ys ts).length ≤ ys.length := by
  unfold faR; split
  · exact runL_len _ _ _ _ _
  · exact Nat.zero_le _
theorem fireR_len (p : Int) (n : Nat) (L : List (List Int)) (ys : List Int) (t : Int) : (fireR p n L ys t).length ≤ ys.length := fireR_le p n L ys t

theorem keepB3 {W W' : World} {a1 a2 a3 : Addr} {x y z : Value} (hk : Below W.heap.size W W') (h : W.cell? a1 = some x ∧ W.cell? a2 = some y ∧ W.cell? a3 = some z) : W'.cell? a1 = some x ∧ W'.cell? a2 = some y ∧ W'.cell? a3 = some z :=
  ⟨(hk.cell (World.block_lt_of_cell? _ _ h.1)).trans h.1, (hk.cell (World.block_lt_of_cell? _ _ h.2.1)).trans h.2.1, (hk.cell (World.block_lt_of_cell? _ _ h.2.2)).trans h.2.2⟩
theorem keepA5 {W : World} {o : Obj} {a1 a2 a3 a4 a5 : Addr} {x1 x2 x3 x4 x5 : Value} (h : W.cell? a1 = some x1 ∧ W.cell? a2 = some x2 ∧ W.cell? a3 = some x3 ∧ W.cell? a4 = some x4 ∧ W.cell? a5 = some x5) : (W.alloc o).cell? a1 = some x1 ∧ (W.alloc o).cell? a2 = some x2 ∧ (W.alloc o).cell? a3 = some x3 ∧ (W.alloc o).cell? a4 = some x4 ∧ (W.alloc o).cell? a5 = some x5 := by
  have k : ∀ {a : Addr} {x : Value}, W.cell? a = some x → (W.alloc o).cell? a = some x := fun h => ((below_al W o).cell (World.block_lt_of_cell? _ _ h)).trans h
  exact ⟨k h.1, k h.2.1, k h.2.2.1, k h.2.2.2.1, k h.2.2.2.2⟩

set_option maxRecDepth 100000 in
set_option maxHeartbeats 8000000 in
theorem walk (a0 : Option Addr) (len0 cap0 : Nat) (z0 : List Int) (a1 : Option Addr) (len1 cap1 : Nat) (z1 : List Int) (w : World) (w0 : IsRow .u8 w a0 len0 cap0 z0) (w1 : IsRow .u8 w a1 len1 cap1 z1) :
    Calls Try.prog 3 #[.slice a0 len0 cap0, .slice a1 len1 cap1] w fun e w' => e = .returned (.bool true) ∧ Below w.heap.size w w' := by
  have hr := rowOf w0
  have hr2 := rowOf w1
  generalize z0.take len0 = bs at hr
  generalize z1.take len1 = cs at hr2
  obtain ⟨hr, hl0⟩ := hr
  obtain ⟨hr2, hl1⟩ := hr2
  have HR := hide hr
  have HR2 := hide hr2
  unfold maxLen at hl0 hl1
  clear w0 w1 hr hr2
  have hbb : ∀ b : Bool, (b != b) = false := by simp
  go_enter Try.func3, Try.ntmps3
  go_wp2_with fail
  refine (big_any _ _ _ _ _ _ _ hl0 hl1).mono ?_
  rintro e v0 ⟨r, rfl, hbig, rfl⟩
  cases r
  rotate_left
  · go_wp2_with fail
    go_ret
    exact ⟨rfl, Below.refl _ _⟩
  have hn0 := (hbig.out rfl).1
  have hn1 := (hbig.out rfl).2
  clear hbig
  go_wp2_with fail
  refine (drawFireAll_any _ _ _ bs _ HR.out hn0).mono ?_
  rintro e v1 ⟨pl, a, k, c, L, b, n, d, xs, b2, n2, d2, ts, rfl, hpl, hk, hlists, hsz, hn, hrow, hn2, hrow2, hb⟩
  have hA := below_al v1 (.cells #[.int .i64 pl, .slice a k c] 26)
  have S1 : Hid (Mst v0 (v1.alloc (.cells #[.int .i64 pl, .slice a k c] 26)) v1.heap.size pl a k c L [(b, n, xs), (b2, n2, ts)] a1 len1 cs) :=
    ⟨hb.trans (hA.mono hb.size), heap_alloc_new _ _, hlists.below hA, Rs.cons (hrow.below hA) (Rs.cons (hrow2.below hA) (Rs.nil _)), (HR2.out.below hb).below hA⟩
  have HXL := hide hrow.1
  have HTL := hide hrow2.1
  clear hlists hrow hrow2 hb hA HR HR2
  have hsz2 : sizeN k L ≤ 1048576 := by omega
  have hn3 : n ≤ 1048576 := by omega
  have hn4 : n2 ≤ 1048576 := by omega
  obtain ⟨g, hgg⟩ : ∃ g, Hid (allOk pl k L xs ts = g) := ⟨_, rfl⟩
  obtain ⟨r, hrr⟩ : ∃ r, Hid (faR pl k L xs ts = r) := ⟨_, rfl⟩
  obtain ⟨N, hNN⟩ : ∃ N, Hid (faN pl k L xs ts = N) := ⟨_, rfl⟩
  have hrl : r.length ≤ 18 := by have h1 := faR_len pl k L xs ts; rw [hrr.out, HXL.out] at h1; omega
  have hsr := sameB_self r
  go_wp2_with fail
  generalize v1.alloc (.cells #[.int .i64 pl, .slice a k c] 26) = W1 at S1 ⊢
  generalize v1.heap.size = V at S1 ⊢
  refine (implFireAll_any _ _ _ _ _ _ _ _ _ _ L xs ts _ S1.out.net (S1.out.rows.at b n xs (by simp)) (S1.out.rows.at b2 n2 ts (by simp)) hsz2 hn3 hn4).mono ?_
  rw [hgg.out, hrr.out, hNN.out]
  rintro e v2 ⟨ax, bx, nx, rfl, hblk, _, hb⟩
  have hnx : nx ≤ 18 := by have := hblk.1; omega
  have S2 := hide ((S1.out.grow hb).add hblk.row)
  have hc0 := S2.out.c0
  have hc1 := S2.out.c1
  clear hblk hb S1
  go_wp2_with fail
  refine (specFireAll_any _ _ _ _ _ _ _ _ _ _ L xs ts _ S2.out.net (S2.out.rows.at b n xs (by simp)) (S2.out.rows.at b2 n2 ts (by simp)) hsz2 hn3 hn4).mono ?_
  rw [hgg.out, hrr.out, hNN.out]
  rintro e v3 ⟨aS, ns, cS, rfl, hrs, hb⟩
  have S3 := hide ((S2.out.grow hb).add hrs)
  clear hc0 hc1 hrs hb S2
  obtain ⟨ok1, hok1⟩ : ∃ g, Hid (netOk pl k L = g) := ⟨_, rfl⟩
  have hc0 := S3.out.c0
  have hc1 := S3.out.c1
  have S3d := hide (S3.out.grow (Below.refl _ v3).drew)
  cases g
  · have hN0 : N = 0 := by have h1 := hNN.out; unfold faN at h1; rw [hgg.out] at h1; simpa using h1.symm
    subst hN0
    go_wp2_with fail
    go_region_held3 (fun W => W.cell? ⟨V, 0, none⟩ = some (.int .i64 pl) ∧ W.cell? ⟨V, 1, none⟩ = some (.slice a k c)) (first | (refine ⟨?_, ?_⟩ <;> simp only [World.cell?_drew] <;> assumption) | (apply keepB2; assumption; assumption))
      (first
        | (go_at_call 10; refine (sameI_any _ _ _ _ _ _ r r _ ?_ ?_ (by omega)).mono ?_; exact S3d.out.rows.at ax nx r (by simp); exact S3d.out.rows.at aS ns r (by simp); rw [hsr]; rintro e v4 ⟨rfl, q4, hq4⟩; have S4 := hide (S3d.out.grow (hq4 ▸ below_drewN' _ q4)); have hB4 := (hq4 ▸ below_drewN' _ q4 : Below v3.drew.heap.size v3.drew v4); clear hq4)
        | (go_at_call 11; refine (goodNetI_any _ _ _ _ L _ ?_ hsz2).mono ?_; exact S4.out.net; rw [hok1.out]; rintro e v5 ⟨rfl, hb5⟩; have S5 := hide (S4.out.grow hb5))
        | (go_at_call 12; refine (goodNetS_any _ _ _ _ L _ ?_ hsz2).mono ?_; exact S5.out.net; rw [hok1.out]; rintro e v6 ⟨rfl, hb6⟩; have S6 := hide (S5.out.grow hb6)))
    clear hB4 hb5 hb6 S3 S3d S4 S5 hc0 hc1
    go_wp2_with fail
    go_loopw [14, 15] (fun t i wr => i = .int .i64 0 ∧ t = .slice b n d ∧ wr = v6) (fun _ _ _ => 0)
    case atStart => exact ⟨rfl, rfl, rfl⟩
    case round =>
      obtain ⟨rfl, rfl, rfl⟩ := hrel
      go_wp2_with fail
      refine (drawFire_any _ _ _ cs _ S6.out.more hn1).mono ?_
      rintro e f1 ⟨pl', a', k', c', L', b', n', d', xs', t', rfl, hpl', hk', hlists, hsz', hn', hrow, ht', hb⟩
      have hA := below_al f1 (.cells #[.int .i64 pl', .slice a' k' c'] 26)
      have F1 : Hid (Mst v0 (f1.alloc (.cells #[.int .i64 pl', .slice a' k' c'] 26)) f1.heap.size pl' a' k' c' L' [(b', n', xs')] a1 len1 cs) :=
        ⟨(S6.out.old.trans (hb.mono S6.out.old.size)).trans (hA.mono (Nat.le_trans S6.out.old.size hb.size)), heap_alloc_new _ _, hlists.below hA, Rs.cons (hrow.below hA) (Rs.nil _), (S6.out.more.below hb).below hA⟩
      have HXL' := hide hrow.1
      clear hlists hrow hb hA S6
      have hszf : sizeN k' L' ≤ 1048576 := by omega
      have hnf : n' ≤ 1048576 := by omega
      obtain ⟨g', hg'⟩ : ∃ g, Hid (fireOk pl' k' L' xs' t' = g) := ⟨_, rfl⟩
      obtain ⟨r', hr'⟩ : ∃ r, Hid (fireR pl' k' L' xs' t' = r) := ⟨_, rfl⟩
      obtain ⟨ge, hge⟩ : ∃ g, Hid (enOk pl' k' L' xs' = g) := ⟨_, rfl⟩
      obtain ⟨re, hre⟩ : ∃ r, Hid (enR pl' k' L' xs' = r) := ⟨_, rfl⟩
      have hrl' : r'.length ≤ 18 := by have h1 := fireR_len pl' k' L' xs' t'; rw [hr'.out, HXL'.out] at h1; omega
      have hre' : re.length ≤ 5 := by have h1 := enR_le pl' k' L' xs'; rw [hre.out] at h1; omega
      have hsr' := sameB_self r'
      have hse' := sameB_self re
      have hbq : ∀ b : Bool, (b == b) = true := by simp
      go_wp2_with fail
      generalize f1.alloc (.cells #[.int .i64 pl', .slice a' k' c'] 26) = X1 at F1 ⊢
      generalize f1.heap.size = V' at F1 ⊢
      refine (implFire_any _ _ _ _ _ _ _ L' xs' t' _ F1.out.net (F1.out.rows.at b' n' xs' (by simp)) hszf hnf).mono ?_
      rw [hg'.out, hr'.out]
      rintro e f2 ⟨ay, by', ny, rfl, hblk, _, hb⟩
      have hny : ny ≤ 18 := by have := hblk.1; omega
      have F2 := hide ((F1.out.grow hb).add hblk.row)
      clear hblk hb F1
      have hw0 := F2.out.c0
      have hw1 := F2.out.c1
      go_wp2_with fail
      refine (specFire_any _ _ _ _ _ _ _ L' xs' t' _ F2.out.net (F2.out.rows.at b' n' xs' (by simp)) hszf hnf).mono ?_
      rw [hg'.out, hr'.out]
      rintro e f3 ⟨af, nf, cf, rfl, hrs, hb⟩
      have F3 := hide ((F2.out.grow hb).add hrs)
      clear hw0 hw1 hrs hb F2
      have hw0 := F3.out.c0
      have hw1 := F3.out.c1
      go_wp2_with fail
      refine (implEn_any _ _ _ _ _ _ _ L' xs' _ F3.out.net (F3.out.rows.at b' n' xs' (by simp)) hszf hnf).mono ?_
      rw [hge.out, hre.out]
      rintro e f4 ⟨ae, be, ne, ce, rfl, hob, _, hb⟩
      have hne : ne ≤ 5 := by have := hob.1; omega
      have F4 := hide ((F3.out.grow hb).add hob.row)
      clear hw0 hw1 hob hb F3
      have hw0 := F4.out.c0
      have hw1 := F4.out.c1
      go_wp2_with fail
      refine (enabledSp_any _ _ _ _ _ _ _ L' xs' _ F4.out.net (F4.out.rows.at b' n' xs' (by simp)) hszf hnf).mono ?_
      rw [hge.out, hre.out]
      rintro e f5 ⟨ad, nd, cd, rfl, hrs, hb⟩
      have F5 := hide ((F4.out.grow hb).add hrs)
      clear hw0 hw1 hrs hb F4
      go_wp2_with fail
      refine (sameI_any _ _ _ _ _ _ r' r' _ (F5.out.rows.at ay ny r' (by simp)) (F5.out.rows.at af nf r' (by simp)) (by omega)).mono ?_
      rw [hsr']
      rintro e f6 ⟨rfl, q6, rfl⟩
      have F6 := hide (F5.out.grow (below_drewN' f5 q6))
      clear F5
      generalize f5.drewN q6 = X6 at F6 ⊢
      go_wp2_with fail
      refine (sameI_any _ _ _ _ _ _ re re _ (F6.out.rows.at ae ne re (by simp)) (F6.out.rows.at ad nd re (by simp)) (by omega)).mono ?_
      rw [hse']
      rintro e f7 ⟨rfl, q7, rfl⟩
      have F7 := hide (F6.out.grow (below_drewN' X6 q7))
      clear F6
      generalize X6.drewN q7 = X7 at F7 ⊢
      cases g'
      · go_wp2_with fail
        go_ret
        exact ⟨rfl, F7.out.old⟩
      · have HEH := hide (en_has hg'.out)
        rw [hre.out] at HEH
        go_wp2_with fail
        refine (hasL_any _ _ _ re t' _ (F7.out.rows.at ae ne re (by simp)) (by omega)).mono ?_
        rw [HEH.out]
        rintro e f8 ⟨rfl, rfl⟩
        go_wp2_with fail
        go_ret
        exact ⟨rfl, F7.out.old⟩
  · go_wp2_with fail
    go_region_held3 (fun W => W.cell? ⟨V, 0, none⟩ = some (.int .i64 pl) ∧ W.cell? ⟨V, 1, none⟩ = some (.slice a k c)) (first | (refine ⟨?_, ?_⟩ <;> simp only [World.cell?_drew] <;> assumption) | (apply keepB2; assumption; assumption))
      (first
        | (go_at_call 10; refine (sameI_any _ _ _ _ _ _ r r _ ?_ ?_ (by omega)).mono ?_; exact S3d.out.rows.at ax nx r (by simp); exact S3d.out.rows.at aS ns r (by simp); rw [hsr]; rintro e v4 ⟨rfl, q4, hq4⟩; have S4 := hide (S3d.out.grow (hq4 ▸ below_drewN' _ q4)); have hB4 := (hq4 ▸ below_drewN' _ q4 : Below v3.drew.heap.size v3.drew v4); clear hq4)
        | (go_at_call 11; refine (goodNetI_any _ _ _ _ L _ ?_ hsz2).mono ?_; exact S4.out.net; rw [hok1.out]; rintro e v5 ⟨rfl, hb5⟩; have S5 := hide (S4.out.grow hb5))
        | (go_at_call 12; refine (goodNetS_any _ _ _ _ L _ ?_ hsz2).mono ?_; exact S5.out.net; rw [hok1.out]; rintro e v6 ⟨rfl, hb6⟩; have S6 := hide (S5.out.grow hb6)))
    clear hB4 hb5 hb6 S3 S3d S4 S5 hc0 hc1
    go_wp2_with fail
    have HOK := hide hgg.out
    have hN1 : Hid (runN pl k L xs ts = N) := by have h1 := hNN.out; unfold faN at h1; rw [hgg.out] at h1; exact h1
    have hR1 : Hid (runL pl k L xs ts = r) := by have h1 := hrr.out; unfold faR at h1; rw [hgg.out] at h1; exact h1
    have hNn : N ≤ n2 := by have h1 := runN_le pl k L xs ts; rw [hN1.out, HTL.out] at h1; exact h1
    have RAN0 : Hid (Ran pl k L xs ts 0 xs) := Ran.start (by have h1 := hgg.out; unfold allOk at h1; simp only [Bool.and_eq_true] at h1; exact h1.1.1.2)
    go_loopw [14, 15] (fun t i wr => ∃ (j : Nat) (us : List Int) (ab : Option Addr) (an ac : Nat), i = .int .i64 j ∧ j ≤ N ∧ t = .slice ab an ac ∧ an ≤ 18 ∧ Hid (Ran pl k L xs ts j us) ∧ Hid (Mst v0 wr V pl a k c L [(ab, an, us), (aS, ns, r), (ax, nx, r), (b, n, xs), (b2, n2, ts)] a1 len1 cs)) (fun _ i _ => N - (intOf i).toNat)
    case atStart => exact ⟨0, xs, b, n, d, rfl, Nat.zero_le _, rfl, by omega, RAN0, S6.out.add (S6.out.rows.at b n xs (by simp))⟩
    case round =>
      obtain ⟨j, us, ab, an, ac, rfl, hj, rfl, han, RAN, T0⟩ := hrel
      clear S6 RAN0
      by_cases hlt : j < N
      rotate_left
      · have hjN : j = N := by omega
        have hus := RAN.out.end' (by rw [hN1.out]; exact hjN)
        rw [hR1.out] at hus
        subst hus
        have hji : ¬ (j : Int) < (N : Int) := by omega
        go_wp2_with fail
        refine (sameI_any _ _ _ _ _ _ r r _ (T0.out.rows.at ab an r (by simp)) (T0.out.rows.at ax nx r (by simp)) (by omega)).mono ?_
        rw [hsr]
        rintro e w7 ⟨rfl, q7, rfl⟩
        have T1 := hide (T0.out.grow (below_drewN' wr q7))
        clear T0
        generalize wr.drewN q7 = W7 at T1 ⊢
        go_wp2_with fail
        refine (drawFire_any _ _ _ cs _ T1.out.more hn1).mono ?_
        rintro e f1 ⟨pl', a', k', c', L', b', n', d', xs', t', rfl, hpl', hk', hlists, hsz', hn', hrow, ht', hb⟩
        have hA := below_al f1 (.cells #[.int .i64 pl', .slice a' k' c'] 26)
        have F1 : Hid (Mst v0 (f1.alloc (.cells #[.int .i64 pl', .slice a' k' c'] 26)) f1.heap.size pl' a' k' c' L' [(b', n', xs')] a1 len1 cs) :=
          ⟨(T1.out.old.trans (hb.mono T1.out.old.size)).trans (hA.mono (Nat.le_trans T1.out.old.size hb.size)), heap_alloc_new _ _, hlists.below hA, Rs.cons (hrow.below hA) (Rs.nil _), (T1.out.more.below hb).below hA⟩
        have HXL' := hide hrow.1
        clear hlists hrow hb hA T1
        have hszf : sizeN k' L' ≤ 1048576 := by omega
        have hnf : n' ≤ 1048576 := by omega
        obtain ⟨g', hg'⟩ : ∃ g, Hid (fireOk pl' k' L' xs' t' = g) := ⟨_, rfl⟩
        obtain ⟨r', hr'⟩ : ∃ r, Hid (fireR pl' k' L' xs' t' = r) := ⟨_, rfl⟩
        obtain ⟨ge, hge⟩ : ∃ g, Hid (enOk pl' k' L' xs' = g) := ⟨_, rfl⟩
        obtain ⟨re, hre⟩ : ∃ r, Hid (enR pl' k' L' xs' = r) := ⟨_, rfl⟩
        have hrl' : r'.length ≤ 18 := by have h1 := fireR_len pl' k' L' xs' t'; rw [hr'.out, HXL'.out] at h1; omega
        have hre' : re.length ≤ 5 := by have h1 := enR_le pl' k' L' xs'; rw [hre.out] at h1; omega
        have hsr' := sameB_self r'
        have hse' := sameB_self re
        have hbq : ∀ b : Bool, (b == b) = true := by simp
        go_wp2_with fail
        generalize f1.alloc (.cells #[.int .i64 pl', .slice a' k' c'] 26) = X1 at F1 ⊢
        generalize f1.heap.size = V' at F1 ⊢
        refine (implFire_any _ _ _ _ _ _ _ L' xs' t' _ F1.out.net (F1.out.rows.at b' n' xs' (by simp)) hszf hnf).mono ?_
        rw [hg'.out, hr'.out]
        rintro e f2 ⟨ay, by', ny, rfl, hblk, _, hb⟩
        have hny : ny ≤ 18 := by have := hblk.1; omega
        have F2 := hide ((F1.out.grow hb).add hblk.row)
        clear hblk hb F1
        have hw0 := F2.out.c0
        have hw1 := F2.out.c1
        go_wp2_with fail
        refine (specFire_any _ _ _ _ _ _ _ L' xs' t' _ F2.out.net (F2.out.rows.at b' n' xs' (by simp)) hszf hnf).mono ?_
        rw [hg'.out, hr'.out]
        rintro e f3 ⟨af, nf, cf, rfl, hrs, hb⟩
        have F3 := hide ((F2.out.grow hb).add hrs)
        clear hw0 hw1 hrs hb F2
        have hw0 := F3.out.c0
        have hw1 := F3.out.c1
        go_wp2_with fail
        refine (implEn_any _ _ _ _ _ _ _ L' xs' _ F3.out.net (F3.out.rows.at b' n' xs' (by simp)) hszf hnf).mono ?_
        rw [hge.out, hre.out]
        rintro e f4 ⟨ae, be, ne, ce, rfl, hob, _, hb⟩
        have hne : ne ≤ 5 := by have := hob.1; omega
        have F4 := hide ((F3.out.grow hb).add hob.row)
        clear hw0 hw1 hob hb F3
        have hw0 := F4.out.c0
        have hw1 := F4.out.c1
        go_wp2_with fail
        refine (enabledSp_any _ _ _ _ _ _ _ L' xs' _ F4.out.net (F4.out.rows.at b' n' xs' (by simp)) hszf hnf).mono ?_
        rw [hge.out, hre.out]
        rintro e f5 ⟨ad, nd, cd, rfl, hrs, hb⟩
        have F5 := hide ((F4.out.grow hb).add hrs)
        clear hw0 hw1 hrs hb F4
        go_wp2_with fail
        refine (sameI_any _ _ _ _ _ _ r' r' _ (F5.out.rows.at ay ny r' (by simp)) (F5.out.rows.at af nf r' (by simp)) (by omega)).mono ?_
        rw [hsr']
        rintro e f6 ⟨rfl, q6, rfl⟩
        have F6 := hide (F5.out.grow (below_drewN' f5 q6))
        clear F5
        generalize f5.drewN q6 = X6 at F6 ⊢
        go_wp2_with fail
        refine (sameI_any _ _ _ _ _ _ re re _ (F6.out.rows.at ae ne re (by simp)) (F6.out.rows.at ad nd re (by simp)) (by omega)).mono ?_
        rw [hse']
        rintro e f7 ⟨rfl, q7, rfl⟩
        have F7 := hide (F6.out.grow (below_drewN' X6 q7))
        clear F6
        generalize X6.drewN q7 = X7 at F7 ⊢
        cases g'
        · go_wp2_with fail
          go_ret
          exact ⟨rfl, F7.out.old⟩
        · have HEH := hide (en_has hg'.out)
          rw [hre.out] at HEH
          go_wp2_with fail
          refine (hasL_any _ _ _ re t' _ (F7.out.rows.at ae ne re (by simp)) (by omega)).mono ?_
          rw [HEH.out]
          rintro e f8 ⟨rfl, rfl⟩
          go_wp2_with fail
          go_ret
          exact ⟨rfl, F7.out.old⟩
      · have hji : (j : Int) < (N : Int) := by omega
        obtain ⟨t, hts, hf⟩ := RAN.out.more (by rw [hN1.out]; exact hlt)
        have HF := hide hf
        have hin := fire_in hf
        obtain ⟨kt, rfl⟩ : ∃ kt : Nat, t = (kt : Int) := ⟨t.toNat, by omega⟩
        have hkt : kt < k := by omega
        have hkt' : (kt : Int) < (k : Int) := by omega
        have hkt0 : (0 : Int) ≤ (kt : Int) := by omega
        have HTS := hide hts
        have HUL := hide RAN.out.len
        obtain ⟨bq, oq, t2, rfl, hlq, hcq, HQ⟩ := (T0.out.rows.at b2 n2 ts (by simp)).at (show j < n2 by omega)
        have ht2 : t2 = (kt : Int) := by have h1 := HQ.out; rw [hts] at h1; simpa using h1.symm
        subst ht2
        have hjn2 : (j : Int) < (n2 : Int) := by omega
        have hj0 : (0 : Int) ≤ (j : Int) := by omega
        have hv0 := T0.out.c0
        have hv1 := T0.out.c1
        have HEN := hide (implEn_any pl a ab k c an ac L us wr T0.out.net (T0.out.rows.at ab an us (by simp)) hsz2 (by omega))
        rw [en_ok hf] at HEN
        have HEH := hide (en_has hf)
        obtain ⟨re, hre⟩ : ∃ l, Hid (enR pl k L us = l) := ⟨_, rfl⟩
        rw [hre.out] at HEN HEH
        have hre' : re.length ≤ 5 := by have h1 := enR_le pl k L us; rw [hre.out] at h1; omega
        clear hf hts hin HQ
        go_wp2_with fail
        refine HEN.out.mono ?_
        rintro e w7 ⟨ae, be, ne, ce, rfl, hob, _, hb⟩
        have hne : ne ≤ 5 := by have := hob.1; omega
        have T1 := hide ((T0.out.grow hb).add hob.row)
        have hcq1 : w7.cell? ⟨bq, oq + j, none⟩ = some (.int .i64 (kt : Int)) := (hb.cell (p := ⟨bq, oq + j, none⟩) hlq).trans hcq
        have hlq1 : bq < w7.heap.size := Nat.lt_of_lt_of_le hlq hb.size
        clear hv0 hv1 hcq hob hb T0 HEN hlq
        have hv0 := T1.out.c0
        have hv1 := T1.out.c1
        have T1d := hide (T1.out.grow (Below.refl _ w7).drew)
        obtain ⟨ry, hry⟩ : ∃ l, Hid (firedL L us (kt : Int) = l) := ⟨_, rfl⟩
        have hFE : Hid (fireR pl k L us (kt : Int) = ry) := by show _ = _; unfold fireR; rw [HF.out, if_pos rfl]; exact hry.out
        have hryl : ry.length = us.length := by rw [← hry.out]; exact firedL_len _ _ _
        go_wp2_with fail
        go_region_held3 (fun W => W.cell? ⟨V, 0, none⟩ = some (.int .i64 pl) ∧ W.cell? ⟨V, 1, none⟩ = some (.slice a k c) ∧ W.cell? ⟨bq, oq + j, none⟩ = some (.int .i64 (kt : Int))) (first | (refine ⟨?_, ?_, ?_⟩ <;> simp only [World.cell?_drew] <;> assumption) | (apply keepB3; assumption; assumption))
          (first | (go_at_call 14; refine (implFire_any _ _ _ _ _ _ _ L us (kt : Int) _ ?_ ?_ hsz2 (by omega)).mono ?_; exact T1d.out.net; exact T1d.out.rows.at ab an us (by simp); rw [HF.out, hFE.out]; rintro e w8 ⟨ay, by', ny, rfl, hblk, _, hb8⟩))
        have T2 := hide ((T1d.out.grow hb8).add hblk.row)
        have hny : ny = an := by have h1 := hblk.1; have h2 := (T1.out.rows.at ab an us (by simp)).1; omega
        subst hny
        have hcq2 : w8.cell? ⟨bq, oq + j, none⟩ = some (.int .i64 (kt : Int)) := (hb8.cell (p := ⟨bq, oq + j, none⟩) hlq1).trans hcq1
        have hlq2 : bq < w8.heap.size := Nat.lt_of_lt_of_le hlq1 hb8.size
        clear hcq1 hlq1 hblk hb8 T1 T1d hv0 hv1
        go_wp2_with fail
        refine (hasL_any _ _ _ re _ _ (T2.out.rows.at ae ne re (by simp)) (by omega)).mono ?_
        rw [HEH.out]
        rintro e w9 ⟨rfl, rfl⟩
        obtain ⟨bt, ot, a0', n0', e0', a1', n1', e1', a2', n2', e2', rfl, hbt, hrt, m0, m1, m2, r0, r1, r2⟩ := T2.out.net.tri hkt
        obtain ⟨hd0, hd1, hd2⟩ := rangeAt_cells3 hrt
        have hv1 := T2.out.c1
        have h5 : w9.cell? ⟨V, 1, none⟩ = some (.slice (some ⟨bt, ot, none⟩) k c) ∧ w9.cell? ⟨bq, oq + j, none⟩ = some (.int .i64 (kt : Int)) ∧ w9.cell? ⟨bt, ot + kt * 3, none⟩ = some (.slice a0' n0' e0') ∧ w9.cell? ⟨bt, ot + kt * 3 + 1, none⟩ = some (.slice a1' n1' e1') ∧ w9.cell? ⟨bt, ot + kt * 3 + 2, none⟩ = some (.slice a2' n2' e2') := ⟨hv1, hcq2, hd0, hd1, hd2⟩
        have RR := hide (And.intro r0 (And.intro r1 r2))
        have q0 : n0' ≤ 1048576 := by have h1 := r0.1; have h2 := len_le L (3 * kt); unfold sizeN at hsz; omega
        have q1 : n1' ≤ 1048576 := by have h1 := r1.1; have h2 := len_le L (3 * kt + 1); unfold sizeN at hsz; omega
        have q2 : n2' ≤ 1048576 := by have h1 := r2.1; have h2 := len_le L (3 * kt + 2); unfold sizeN at hsz; omega
        clear hrt m0 m1 m2 r0 r1 r2 HEH
        go_wp2_with fail
        go_cut [20] from 80 to 163 (fun s20 wx => s20 = .pointer (some ⟨w9.heap.size, 0, none⟩) ∧ Hid (Below w9.heap.size w9 wx) ∧ Hid (wx.heap[w9.heap.size]? = some (.cells #[.slice a0' n0' e0', .slice a1' n1' e1', .slice a2' n2' e2'] 39 (0, 0))))
        case first =>
          go_region_held3 (fun W => W.cell? ⟨V, 1, none⟩ = some (.slice (some ⟨bt, ot, none⟩) k c) ∧ W.cell? ⟨bq, oq + j, none⟩ = some (.int .i64 (kt : Int)) ∧ W.cell? ⟨bt, ot + kt * 3, none⟩ = some (.slice a0' n0' e0') ∧ W.cell? ⟨bt, ot + kt * 3 + 1, none⟩ = some (.slice a1' n1' e1') ∧ W.cell? ⟨bt, ot + kt * 3 + 2, none⟩ = some (.slice a2' n2' e2')) (first | (simp only [World.cell?_drew]; assumption) | (simp only [World.cell?_drew]; apply keepA5; assumption) | (apply keepA5; assumption)) (fail)
          all_goals (go_wp2_with fail; go_meet)
          all_goals exact ⟨rfl, (below_al w9 _).drew, heap_alloc_new _ _⟩
        case rest =>
          obtain ⟨rfl, HBW, HTB⟩ := hcut
          clear h5 hv1 hcq2 hlq2 hd0 hd1 hd2 hbt
          have T3 := hide (T2.out.grow HBW.out)
          have R0 := hide (RR.out.1.below HBW.out)
          have R1 := hide (RR.out.2.1.below HBW.out)
          have R2 := hide (RR.out.2.2.below HBW.out)
          clear T2 RR HBW
          generalize w9.heap.size = tB at HTB ⊢
          go_wp2_with fail
          go_loopw [129] (fun i wr => ∃ p : Nat, p ≤ ny ∧ i = .int .i64 p ∧ Hid (Below wc.heap.size wc wr)) (fun i _ => ny - (intOf i).toNat)
          case atStart => exact ⟨0, Nat.zero_le _, rfl, Below.refl _ _⟩
          case round =>
            obtain ⟨p, hp, rfl, HB⟩ := hrel
            by_cases hpl2 : p < ny
            rotate_left
            · have hpi : ¬ (p : Int) < (ny : Int) := by omega
              have T4 := hide (T3.out.grow HB.out)
              have RAN2 := hide (RAN.out.step HTS.out HF.out)
              rw [hry.out] at RAN2
              clear T3 HB
              go_wp2_with fail
              go_roundw
              case rel => exact ⟨j + 1, ry, ay, ny, ny, by go_num, by omega, rfl, by omega, RAN2, ⟨T4.out.old, T4.out.var, T4.out.net, Rs.cons (T4.out.rows.at ay ny ry (by simp)) (Rs.cons (T4.out.rows.at aS ns r (by simp)) (Rs.cons (T4.out.rows.at ax nx r (by simp)) (Rs.cons (T4.out.rows.at b n xs (by simp)) (Rs.cons (T4.out.rows.at (some ⟨bq, oq, none⟩) n2 ts (by simp)) (Rs.nil _))))), T4.out.more⟩⟩
              case measure => simp [intOf]; omega
            · have hpi : (p : Int) < (ny : Int) := by omega
              have hpi0 : (0 : Int) ≤ (p : Int) := by omega
              have hT := (HB.out.block tB (row_lt HTB.out)).trans HTB.out
              have ht0 : wr.cell? ⟨tB, 0, none⟩ = some (.slice a0' n0' e0') := cell_of_row wr tB 0 _ _ _ hT
              have ht1 : wr.cell? ⟨tB, 1, none⟩ = some (.slice a1' n1' e1') := cell_of_row wr tB 1 _ _ _ hT
              have ht2 : wr.cell? ⟨tB, 2, none⟩ = some (.slice a2' n2' e2') := cell_of_row wr tB 2 _ _ _ hT
              obtain ⟨by2, oy, yv, hye, _, hyc, HY⟩ := ((T3.out.rows.at ay ny ry (by simp)).below HB.out).at hpl2
              obtain ⟨bu, ou, uv, hue, _, huc, HU⟩ := ((T3.out.rows.at ab ny us (by simp)).below HB.out).at hpl2
              subst hye hue
              have R0' := hide (R0.out.below HB.out)
              have R1' := hide (R1.out.below HB.out)
              have R2' := hide (R2.out.below HB.out)
              clear hT
              cases h0 : hasB (L.getD (3 * kt) []) (p : Int)
              rotate_left
              · have HC0 : Hid (∀ m, Calls Try.prog 15 #[.slice a0' n0' e0', .int .i64 (p : Int)] (wr.drewN m) fun e w' => e = .returned (.bool true) ∧ w' = wr.drewN m) := fun m => by
                  have h := hasL_any a0' n0' e0' (L.getD (3 * kt) []) (p : Int) (wr.drewN m) (R0'.out.drewN m) q0
                  rw [h0] at h
                  exact h
                clear hyc huc ht1 ht2
                go_wp2_with fail
                go_quiet (first | (go_at_call_of 15 (Value.slice a0' n0' e0'); exact Calls.quiet_of_same (HC0.out _)))
                go_wp2_with fail
                go_roundw
                case rel => exact ⟨p + 1, by omega, by go_num, HB.out.trans ((below_drewN' wr _).mono HB.out.size)⟩
                case measure => simp [intOf]; omega
              · have HC0 : Hid (∀ m, Calls Try.prog 15 #[.slice a0' n0' e0', .int .i64 (p : Int)] (wr.drewN m) fun e w' => e = .returned (.bool false) ∧ w' = wr.drewN m) := fun m => by
                  have h := hasL_any a0' n0' e0' (L.getD (3 * kt) []) (p : Int) (wr.drewN m) (R0'.out.drewN m) q0
                  rw [h0] at h
                  exact h
                cases h1 : hasB (L.getD (3 * kt + 1) []) (p : Int)
                rotate_left
                · have HC1 : Hid (∀ m, Calls Try.prog 15 #[.slice a1' n1' e1', .int .i64 (p : Int)] (wr.drewN m) fun e w' => e = .returned (.bool true) ∧ w' = wr.drewN m) := fun m => by
                    have h := hasL_any a1' n1' e1' (L.getD (3 * kt + 1) []) (p : Int) (wr.drewN m) (R1'.out.drewN m) q1
                    rw [h1] at h
                    exact h
                  clear hyc huc ht2
                  go_wp2_with fail
                  go_quiet (first | (go_at_call_of 15 (Value.slice a0' n0' e0'); exact Calls.quiet_of_same (HC0.out _)) | (go_at_call_of 15 (Value.slice a1' n1' e1'); exact Calls.quiet_of_same (HC1.out _)))
                  go_wp2_with fail
                  go_roundw
                  case rel => exact ⟨p + 1, by omega, by go_num, HB.out.trans ((below_drewN' wr _).mono HB.out.size)⟩
                  case measure => simp [intOf]; omega
                · have HC1 : Hid (∀ m, Calls Try.prog 15 #[.slice a1' n1' e1', .int .i64 (p : Int)] (wr.drewN m) fun e w' => e = .returned (.bool false) ∧ w' = wr.drewN m) := fun m => by
                    have h := hasL_any a1' n1' e1' (L.getD (3 * kt + 1) []) (p : Int) (wr.drewN m) (R1'.out.drewN m) q1
                    rw [h1] at h
                    exact h
                  cases h2 : hasB (L.getD (3 * kt + 2) []) (p : Int)
                  rotate_left
                  · have HC2 : Hid (∀ m, Calls Try.prog 15 #[.slice a2' n2' e2', .int .i64 (p : Int)] (wr.drewN m) fun e w' => e = .returned (.bool true) ∧ w' = wr.drewN m) := fun m => by
                      have h := hasL_any a2' n2' e2' (L.getD (3 * kt + 2) []) (p : Int) (wr.drewN m) (R2'.out.drewN m) q2
                      rw [h2] at h
                      exact h
                    clear hyc huc
                    go_wp2_with fail
                    go_quiet (first | (go_at_call_of 15 (Value.slice a0' n0' e0'); exact Calls.quiet_of_same (HC0.out _)) | (go_at_call_of 15 (Value.slice a1' n1' e1'); exact Calls.quiet_of_same (HC1.out _)) | (go_at_call_of 15 (Value.slice a2' n2' e2'); exact Calls.quiet_of_same (HC2.out _)))
                    go_wp2_with fail
                    go_roundw
                    case rel => exact ⟨p + 1, by omega, by go_num, HB.out.trans ((below_drewN' wr _).mono HB.out.size)⟩
                    case measure => simp [intOf]; omega
                  · have HC2 : Hid (∀ m, Calls Try.prog 15 #[.slice a2' n2' e2', .int .i64 (p : Int)] (wr.drewN m) fun e w' => e = .returned (.bool false) ∧ w' = wr.drewN m) := fun m => by
                      have h := hasL_any a2' n2' e2' (L.getD (3 * kt + 2) []) (p : Int) (wr.drewN m) (R2'.out.drewN m) q2
                      rw [h2] at h
                      exact h
                    have hst := fired_stays (i := p) HF.out (show hasB (L.getD (3 * (kt : Int).toNat) []) (p : Int) = false by rw [Int.toNat_natCast]; exact h0) (show hasB (L.getD (3 * (kt : Int).toNat + 1) []) (p : Int) = false by rw [Int.toNat_natCast]; exact h1) (show hasB (L.getD (3 * (kt : Int).toNat + 2) []) (p : Int) = false by rw [Int.toNat_natCast]; exact h2)
                    rw [hry.out, HY.out, HU.out] at hst
                    obtain rfl := Option.some.inj hst
                    have hbe : (yv != yv) = false := by simp
                    go_wp2_with fail
                    go_quiet (first | (go_at_call_of 15 (Value.slice a0' n0' e0'); exact Calls.quiet_of_same (HC0.out _)) | (go_at_call_of 15 (Value.slice a1' n1' e1'); exact Calls.quiet_of_same (HC1.out _)) | (go_at_call_of 15 (Value.slice a2' n2' e2'); exact Calls.quiet_of_same (HC2.out _)))
                    go_wp2_with fail
                    go_roundw
                    case rel => exact ⟨p + 1, by omega, by go_num, HB.out.trans ((below_drewN' wr _).mono HB.out.size)⟩
                    case measure => simp [intOf]; omega

/-! ### THE ROW's STEP: WRITTEN OUT: LEAVE IT -/
set_option maxRecDepth 100000 in
theorem lifted (os : Os) (started : os.Started) (H : Type) (enc : TypeId × Value → H) :
    ReturnsInHanded {} Try.checked os 3 .any (Rows.fnFiredSpec.pre6 enc Try.prog Try.f3 Rows.fnFiredRow.domain false) (Rows.fnFiredSpec.post enc Try.prog Try.f3 false true false false) := by
  refine returnsInHanded_of_change (C := Try.checked) own started (by kernel_rfl) Try.func3
    (ChangeSpec.witness6 (enc := enc) (C := Try.checked) false ⟨#[], #[.slice none 0 0, .slice none 0 0], []⟩ 8 (by kernel_rfl) (by kernel_rfl) (by kernel_rfl) (by kernel_rfl)) ?_
  intro W base args ds gs before hval0 hW hcnd _
  have hval : ∀ (j : Nat) t v, Try.f3.params[j]? = some t → args[j]? = some v → Value.okWide Try.prog W .any base t v := hval0
  have hW' := hW
  obtain ⟨p, q, hA0, hV, rfl, hfz, hnd⟩ := hW
  have hA : DataW.TrodAll enc Try.prog W 0 (fun _ => true) true Try.f3.params.toList args.toList ds p := hA0
  rw [Try.params3] at hA hval
  obtain ⟨v0, vs0, d0, ds0, p0, q0, hargs, rfl, rfl, h0, r0⟩ := trodAll_cons hA
  obtain ⟨v1, vs1, d1, ds1, p1, q1, rfl, rfl, rfl, h1, r1⟩ := trodAll_cons r0
  obtain ⟨rfl, rfl, rfl⟩ := trodAll_nil r1
  obtain rfl : args = #[v0, v1] := by cases args; simp_all
  obtain ⟨rfl, rfl⟩ := trodVars_none hV
  obtain ⟨a0, len0, cap0, rfl⟩ := okWide_slice Try.underlying22 (hval 0 22 v0 rfl rfl)
  have k0 := h0
  have lt0 : ∀ x ∈ p0, x.block < W.heap.size := by obtain ⟨m, hm⟩ := k0; exact DataW.trod_lt m _ _ _ hm
  obtain ⟨z0, w0⟩ : ∃ zs, IsRow .u8 W a0 len0 cap0 zs := by
    obtain ⟨fuel, hf⟩ := h0
    rcases open_ints Try.underlying22 Try.underlying5 (by kernel_rfl) hf with ⟨hcs, _⟩ | ⟨x, l, c, zs, hcs, _, hl, hm, hz, _, hcell, hwz⟩
    · simp [Value.cells] at hcs
      obtain ⟨rfl, rfl, rfl⟩ := hcs
      exact ⟨[], .inl ⟨rfl, rfl, rfl, rfl⟩⟩
    · simp [Value.cells] at hcs
      obtain ⟨rfl, rfl, rfl⟩ := hcs
      exact ⟨zs, .inr ⟨_, rfl, hl, hm, by simpa using hz, hcell, hwz⟩⟩
  obtain ⟨a1, len1, cap1, rfl⟩ := okWide_slice Try.underlying22 (hval 1 22 v1 rfl rfl)
  have k1 := h1
  have lt1 : ∀ x ∈ p1, x.block < W.heap.size := by obtain ⟨m, hm⟩ := k1; exact DataW.trod_lt m _ _ _ hm
  obtain ⟨z1, w1⟩ : ∃ zs, IsRow .u8 W a1 len1 cap1 zs := by
    obtain ⟨fuel, hf⟩ := h1
    rcases open_ints Try.underlying22 Try.underlying5 (by kernel_rfl) hf with ⟨hcs, _⟩ | ⟨x, l, c, zs, hcs, _, hl, hm, hz, _, hcell, hwz⟩
    · simp [Value.cells] at hcs
      obtain ⟨rfl, rfl, rfl⟩ := hcs
      exact ⟨[], .inl ⟨rfl, rfl, rfl, rfl⟩⟩
    · simp [Value.cells] at hcs
      obtain ⟨rfl, rfl, rfl⟩ := hcs
      exact ⟨zs, .inr ⟨_, rfl, hl, hm, by simpa using hz, hcell, hwz⟩⟩
  clear hA0 hval0
  refine (walk a0 len0 cap0 z0 a1 len1 cap1 z1 W w0 w1).mono fun e W' ⟨he, bel⟩ => ?_
  subst he
  exact ⟨_, rfl, _, _, _, [], _, [], hW', trodAll_mk1 (shut_bool Try.underlying4 _), (trodAll_cons_mk (Below.trod laidOut (by kernel_rfl) (of_decide_eq_true (by kernel_rfl)) k0 bel lt0) (trodAll_cons_mk (Below.trod laidOut (by kernel_rfl) (of_decide_eq_true (by kernel_rfl)) k1 bel lt1) trodAll_mk0)), rfl, bel.frame _, fun h => by cases h⟩

theorem over : Rows.fnFiredRow.holds Try.pinned (OpenSpec.ofChange Rows.fnFiredSpec) :=
  OpenClaim.holds_of_wide 3 Try.f3 rfl rfl rfl rfl rfl rfl rfl ⟨rfl, rfl, rfl, rfl, rfl⟩ rfl rfl rfl rfl rfl (by kernel_rfl) Try.func3 (by kernel_rfl)
    (of_decide_eq_true (by kernel_rfl)) (by unfold Func.isWrapper; first | (rw [if_pos (by decide +kernel)]; kernel_rfl) | (rw [if_neg (by decide +kernel)]; exact ⟨rfl, rfl⟩))
    (fun os started H enc _ => lifted os started H enc)

/-- ████ THE STATEMENT ████ -/
theorem proved : Rows.FnFiredSaid := over
#print axioms proved
end Go.Proofs.Ytbobppcnmpiacaa.fnFired

namespace Go.Proofs.Ytbobppcnmpiacaa
theorem fnFired_holds : Rows.FnFiredSaid := fnFired.proved
end Go.Proofs.Ytbobppcnmpiacaa
