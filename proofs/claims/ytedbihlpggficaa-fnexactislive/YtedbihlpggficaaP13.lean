/- Contracts that the proof stands on, one behind the other. -/
import Derived.Test.YtedbihlpggficaaP12
/- Dead marks: the program's dead, and the search for the first. -/
namespace Go.Proofs.Ytedbihlpggficaa
open Go.RowKit
set_option maxRecDepth 10000

/-- Whether one of the first n is as asked. -/
def anyE (Pd : Nat → Bool) (n : Nat) : Bool := (List.range n).any Pd

theorem anyE_yes {Pd : Nat → Bool} {n k : Nat} (hk : k < n) (h : Pd k = true) : anyE Pd n = true := by
  unfold anyE
  rw [List.any_eq_true]
  exact ⟨k, by simpa using hk, h⟩

theorem anyE_step {Pd : Nat → Bool} {k : Nat} (h : anyE Pd k = false) (he : Pd k = false) : anyE Pd (k + 1) = false := by
  unfold anyE at *
  rw [List.range_succ, List.any_append, h]
  simp [he]

theorem anyE_congr {f g : Nat → Bool} {n : Nat} (h : ∀ i, i < n → f i = g i) : anyE f n = anyE g n := by
  unfold anyE
  rw [Bool.eq_iff_iff, List.any_eq_true, List.any_eq_true]
  constructor
  · rintro ⟨i, hi, hh⟩; exact ⟨i, hi, by rw [← h i (by simpa using hi)]; exact hh⟩
  · rintro ⟨i, hi, hh⟩; exact ⟨i, hi, by rw [h i (by simpa using hi)]; exact hh⟩

theorem numsL_empty (f : Nat → Bool) (n : Nat) : ((numsL f n).length = 0) ↔ anyE f n = false := by
  unfold numsL anyE
  rw [List.length_map, List.length_eq_zero_iff, List.filter_eq_nil_iff, Bool.eq_false_iff, Ne, List.any_eq_true]
  constructor
  · rintro h ⟨x, h1, h2⟩; exact h x h1 h2
  · intro h x h1 h2; exact h ⟨x, h1, h2⟩

/-- Whether nothing can fire. -/
def deadM (n : Nat) (L : List (List Int)) (m : List Int) : Bool := !anyE (canT L m) n

def IdxE (Pd : Nat → Bool) (n : Nat) (w : World) (e : Ending) (w' : World) : Prop := ∃ z : Int, e = .returned (.int .i64 z) ∧ Hid (decide (0 ≤ z) = anyE Pd n) ∧ Below w.heap.size w w'

set_option maxHeartbeats 1000000 in
theorem indexE_any (s : Nat) (Pd : Nat → Bool) (B n : Nat) (L : List (List Int)) (w : World) (h : PartS w B (3 * n) (3 * n) L) (hn : n ≤ 24)
    (hc : ∀ W k, k < n → Calls Try.prog 103 #[.int .u16 (s : Int), .agg #[.int .u16 (maskL (L.getD (3 * k) []) : Int), .int .u16 (maskL (L.getD (3 * k + 1) []) : Int), .int .u16 (maskL (L.getD (3 * k + 2) []) : Int)]] W fun e W' => e = .returned (.bool (Pd k)) ∧ Below W.heap.size W W') :
    Calls Try.prog 119 #[.slice (some ⟨B, 0, none⟩) n n, .func (.func 103) #[.int .u16 (s : Int)] #[]] w fun e w' => IdxE Pd n w e w' := by
  have HP := hide h
  have HC := hide hc
  clear h hc
  go_enter Try.func119, Try.ntmps119
  go_wp2_with fail
  go_loopw [8] (fun i wr => ∃ k : Nat, k ≤ n ∧ i = .int .i64 k ∧ Hid (anyE Pd k = false) ∧ Hid (Below w.heap.size w wr)) (fun i _ => n - (intOf i).toNat)
  case atStart => exact ⟨0, Nat.zero_le _, rfl, rfl, Below.refl _ _⟩
  case round =>
    obtain ⟨k, hk, rfl, hu, hbw⟩ := hrel
    by_cases hlt : k < n
    rotate_left
    · have hk' : k = n := by omega
      subst hk'
      have HE : Hid (IdxE Pd k w (.returned (.int .i64 (-1))) wr) := ⟨-1, rfl, by rw [hu.out]; rfl, hbw.out⟩
      go_wp2_with fail
      go_ret
      exact HE.out
    obtain ⟨hc0, hc1, hc2⟩ := (HP.out.grow hbw.out).at2 hlt
    have HH := hide (HC.out wr k hlt)
    cases hh : Pd k
    · have HU := hide (anyE_step hu.out hh)
      rw [hh] at HH
      clear hh hu
      generalize maskL (L.getD (3 * k) []) = s0 at *
      generalize maskL (L.getD (3 * k + 1) []) = s1 at *
      generalize maskL (L.getD (3 * k + 2) []) = s2 at *
      go_wp2_with fail
      refine HH.out.mono ?_
      rintro e w1 ⟨rfl, hb⟩
      have HB := hide (hbw.out.trans (hb.mono hbw.out.size))
      clear hb HH hc0 hc1 hc2
      go_wp2_with fail
      go_roundw
      case rel => exact ⟨k + 1, by omega, by go_num, HU, HB⟩
      case measure => simp [intOf]; omega
    · have HY := hide (anyE_yes hlt hh)
      rw [hh] at HH
      clear hh hu
      generalize maskL (L.getD (3 * k) []) = s0 at *
      generalize maskL (L.getD (3 * k + 1) []) = s1 at *
      generalize maskL (L.getD (3 * k + 2) []) = s2 at *
      go_wp2_with fail
      refine HH.out.mono ?_
      rintro e w1 ⟨rfl, hb⟩
      have HE : Hid (IdxE Pd n w (.returned (.int .i64 (k : Int))) w1) := ⟨k, rfl, by rw [HY.out]; simp [Hid], hbw.out.trans (hb.mono hbw.out.size)⟩
      clear hb HH hc0 hc1 hc2
      go_wp2_with fail
      go_ret
      exact HE.out

set_option maxHeartbeats 400000 in
theorem containsE_any (s : Nat) (Pd : Nat → Bool) (B n : Nat) (L : List (List Int)) (w : World) (h : PartS w B (3 * n) (3 * n) L) (hn : n ≤ 24)
    (hc : ∀ W k, k < n → Calls Try.prog 103 #[.int .u16 (s : Int), .agg #[.int .u16 (maskL (L.getD (3 * k) []) : Int), .int .u16 (maskL (L.getD (3 * k + 1) []) : Int), .int .u16 (maskL (L.getD (3 * k + 2) []) : Int)]] W fun e W' => e = .returned (.bool (Pd k)) ∧ Below W.heap.size W W') :
    Calls Try.prog 106 #[.slice (some ⟨B, 0, none⟩) n n, .func (.func 103) #[.int .u16 (s : Int)] #[]] w fun e w' => e = .returned (.bool (anyE Pd n)) ∧ Below w.heap.size w w' := by
  have HI := hide (indexE_any s Pd B n L w h hn hc)
  clear h hc
  go_enter Try.func106, Try.ntmps106
  go_wp2_with fail
  refine HI.out.mono ?_
  rintro e w1 ⟨z, rfl, hz, hb⟩
  have HB := hide hb
  clear hb HI
  go_wp2_with fail
  go_ret
  exact ⟨ret_bool hz.out, HB.out⟩

/-- The first mark that is as asked is the k-th. -/
def FdAt (f : List Int → Bool) (ms : List (List Int)) (k : Nat) : Prop := k < ms.length ∧ (∀ i, i < k → f (ms.getD i []) = false) ∧ f (ms.getD k []) = true

def IdxT (f : List Int → Bool) (ms : List (List Int)) (w : World) (e : Ending) (w' : World) : Prop :=
  ∃ z : Int, e = .returned (.int .i64 z) ∧ Hid ((∃ k : Nat, z = (k : Int) ∧ FdAt f ms k) ∨ (z = -1 ∧ ∀ i, i < ms.length → f (ms.getD i []) = false)) ∧ Below w.heap.size w w'

end Go.Proofs.Ytedbihlpggficaa


/- neverLoses and IsLive of the program. -/
namespace Go.Proofs.Ytedbihlpggficaa
open Go.RowKit
set_option maxRecDepth 10000

set_option maxHeartbeats 1000000 in
theorem liveC_any (l g s0 s1 s2 : Nat) (m : List Int) (w : World) (hf : ∀ i, 0 ≤ m.getD i 0 ∧ m.getD i 0 ≤ 50) (h0 : s0 < 2 ^ 16) (hg : w.heap[g]? = some (.cells #[.int .u16 (s0 : Int), .int .u16 (s1 : Int), .int .u16 (s2 : Int)] 104 (0, 0))) :
    Calls Try.prog 101 #[.agg (packOf m l), .pointer (some ⟨g, 0, none⟩)] w fun e w' => e = .returned (.bool (subB s0 (maskL (posL (fOf m l) 16)))) ∧ Below w.heap.size w w' := by
  have hAl := below_al w (.cells (packOf m l) 84)
  have HT0 := hide (heap_alloc_new w (.cells (packOf m l) 84))
  have HG0 := hide (keep hg hAl)
  have HB0 := hide hAl
  have HF := hide hf
  obtain ⟨M, hM⟩ : ∃ M, Hid (maskL (posL (fOf m l) 16) = M) := ⟨_, rfl⟩
  rw [hM.out]
  clear hg hAl hf
  go_enter Try.func101, Try.ntmps101
  go_upto_region 1 with fail
  generalize w.alloc (.cells (packOf m l) 84) = v at *
  have HB1 := hide HB0.out.drew
  have HT1 := hide (keep HT0.out (Below.refl _ v).drew)
  have HG1 := hide (keep HG0.out (Below.refl _ v).drew)
  refine wp_region_held_drew (S := fun W => W.heap[w.heap.size]? = some (.cells (packOf m l) 84 (0, 0)) ∧ W.heap[g]? = some (.cells #[.int .u16 (s0 : Int), .int .u16 (s1 : Int), .int .u16 (s2 : Int)] 104 (0, 0))) (by kernel_rfl) ⟨HT1.out, HG1.out⟩ (fun hHeld => ?_)
  have hSv : (fun W : World => W.heap[w.heap.size]? = some (.cells (packOf m l) 84 (0, 0)) ∧ W.heap[g]? = some (.cells #[.int .u16 (s0 : Int), .int .u16 (s1 : Int), .int .u16 (s2 : Int)] 104 (0, 0))) v.drew := ⟨HT1.out, HG1.out⟩
  clear HB0 HT0 HG0 hHeld
  generalize v.drew = v1 at *
  refine take_yes (i := 0) (some 4) (.agg (packOf m l)) rfl rfl (by kernel_rfl) (by kernel_rfl) (by kernel_rfl) (fun _ _ _ h => h) (by rfl) ?_ (by assumption) ?_
  · intro W' hSw
    obtain ⟨hz0, hz1⟩ := hSw
    exact exec_load_row 84 _ rfl _ rfl 84 _ _ _ hz0 Try.underlying84 rfl (by rw [packOf_size]; exact Try.size84)
  simp only [Act.put, List.setIfInBounds_toArray, List.set_cons_zero, List.set_cons_succ]
  refine take_yes (i := 2) (some 6) (.agg #[.int .u16 (s0 : Int), .int .u16 (s1 : Int), .int .u16 (s2 : Int)]) rfl rfl (by kernel_rfl) (by kernel_rfl) (by kernel_rfl) (fun _ _ _ h => h) (by rfl) ?_ (by assumption) ?_
  · intro W' hSw
    obtain ⟨hz0, hz1⟩ := hSw
    exact exec_load_row 104 _ rfl _ rfl 104 _ _ _ hz1 Try.underlying104 rfl Try.size104
  simp only [Act.put, List.setIfInBounds_toArray, List.set_cons_zero, List.set_cons_succ]
  refine call_next (i := 1) (some 5) rfl rfl (by kernel_rfl) (by rfl) 102 _ _ _ rfl Try.func102 (by decide) rfl #[.agg (packOf m l)] (mapw1 _ _ _ rfl) _ (markedI_any (fOf m l) v1 (fun i => by have := HF.out i; unfold fOf; split <;> omega)) ?_
  rintro e w1 ⟨rfl, rfl⟩
  have hA := below_al v1 (.cells (tokF (fOf m l)) 84)
  have HB2 := hide (HB1.out.trans (hA.mono HB1.out.size))
  have hS2 : (fun W : World => W.heap[w.heap.size]? = some (.cells (packOf m l) 84 (0, 0)) ∧ W.heap[g]? = some (.cells #[.int .u16 (s0 : Int), .int .u16 (s1 : Int), .int .u16 (s2 : Int)] 104 (0, 0))) (v1.alloc (.cells (tokF (fOf m l)) 84)) := ⟨keep HT1.out hA, keep HG1.out hA⟩
  rw [hM.out]
  refine ⟨_, rfl, hS2, fun _ => ?_⟩
  simp only [Act.put, List.setIfInBounds_toArray, List.set_cons_zero, List.set_cons_succ]
  refine call_next (i := 3) (some 7) rfl rfl (by kernel_rfl) (by rfl) 103 _ _ _ rfl Try.func103 (by decide) rfl #[.int .u16 (M : Int), .agg #[.int .u16 (s0 : Int), .int .u16 (s1 : Int), .int .u16 (s2 : Int)]] (mapw2 _ _ _ _ _ rfl rfl) _ (enables_any M s0 s1 s2 _ h0) ?_
  rintro e w2 ⟨rfl, rfl⟩
  have hA3 := below_al (v1.alloc (.cells (tokF (fOf m l)) 84)) (.cells #[.int .u16 (s0 : Int), .int .u16 (s1 : Int), .int .u16 (s2 : Int)] 104)
  have HB3 := hide (HB2.out.trans (hA3.mono HB2.out.size))
  have hS3 : (fun W : World => W.heap[w.heap.size]? = some (.cells (packOf m l) 84 (0, 0)) ∧ W.heap[g]? = some (.cells #[.int .u16 (s0 : Int), .int .u16 (s1 : Int), .int .u16 (s2 : Int)] 104 (0, 0))) ((v1.alloc (.cells (tokF (fOf m l)) 84)).alloc (.cells #[.int .u16 (s0 : Int), .int .u16 (s1 : Int), .int .u16 (s2 : Int)] 104)) := ⟨keep hS2.1 hA3, keep hS2.2 hA3⟩
  refine ⟨_, rfl, hS3, fun _ => ?_⟩
  simp only [Act.put, List.setIfInBounds_toArray, List.set_cons_zero, List.set_cons_succ]
  obtain ⟨bb, hbb⟩ : ∃ b, Hid (subB s0 M = b) := ⟨_, rfl⟩
  rw [hbb.out]
  refine take_yes (i := 4) (some 3) (.bool bb) rfl rfl (by kernel_rfl) (by kernel_rfl) (by kernel_rfl) (fun _ _ _ h => h) (by rfl) ?_ (by assumption) ?_
  · intro W' hSw
    obtain ⟨hz0, hz1⟩ := hSw
    go_simp
  simp only [Act.put, List.setIfInBounds_toArray, List.set_cons_zero, List.set_cons_succ]
  refine wpAnyH_done (by kernel_rfl) ?_ _
  go_wp2_with fail
  go_ret
  exact ⟨ret_bool hbb.out.symm, HB3.out⟩

/-- How neverLoses ends. -/
def NlEnd (ar : List (Nat × Nat × Nat)) (gd : Nat → Bool) (N : Nat) (w : World) (e : Ending) (w' : World) : Prop := AtEnd ar gd N w e w'

set_option maxHeartbeats 1000000 in
theorem never_any {p : Int} {n l : Nat} {L : List (List Int)} {ys : List Int} {bg : Int} {s : Sea} (hok : SpOk p n l L ys bg s) (B BS mb G s0 s1 s2 t : Nat) (aa : Option Addr) (ac : Nat) (w : World) (hst : SpSt B w p n l L s BS mb G (.slice aa s.ar.length ac)) (ht : t < n) (h0 : s0 < 2 ^ 16) (hs0 : maskL (L.getD (3 * t) []) = s0) :
    Calls Try.prog 66 #[.agg (spV p n BS mb G s.ms.length (.slice aa s.ar.length ac)), .agg #[.int .u16 (s0 : Int), .int .u16 (s1 : Int), .int .u16 (s2 : Int)]] w fun e w' => AtEnd s.ar (fun k => canT L (s.ms.getD k []) t) s.ms.length w e w' := by
  have hAl := (below_al w (.cells (spV p n BS mb G s.ms.length (.slice aa s.ar.length ac)) 73)).trans ((below_al (w.alloc (.cells (spV p n BS mb G s.ms.length (.slice aa s.ar.length ac)) 73)) (.cells #[.int .u16 (s0 : Int), .int .u16 (s1 : Int), .int .u16 (s2 : Int)] 104)).mono (by simp))
  have hz5 := keep (heap_alloc_new w (.cells (spV p n BS mb G s.ms.length (.slice aa s.ar.length ac)) 73)) (below_al (w.alloc (.cells (spV p n BS mb G s.ms.length (.slice aa s.ar.length ac)) 73)) (.cells #[.int .u16 (s0 : Int), .int .u16 (s1 : Int), .int .u16 (s2 : Int)] 104))
  have HG1 := hide (heap_alloc2_new w (.cells (spV p n BS mb G s.ms.length (.slice aa s.ar.length ac)) 73) (.cells #[.int .u16 (s0 : Int), .int .u16 (s1 : Int), .int .u16 (s2 : Int)] 104))
  have HST := hide (hst.grow hAl)
  have HB0 := hide hAl
  have HOK := hide hok
  have hs0' := hide hs0
  have hmf : ∀ (fn : Fn) (first cap : Array Value) (w : World), (Instr.makeFunc fn first cap).run Try.prog w = .ok (.func fn first cap) w := fun _ _ _ _ => rfl
  have HAT := hide (alwaysLive_any p n BS mb G s.ms.length B l ⟨w.heap.size + 1, 0, none⟩ aa ac s.ms (fun k => canT L (s.ms.getD k []) t) s.ar _ HST.out.arcs HST.out.toks rfl hok.m4 hok.len (arcs_lt hok)
    (fun W hW k hk => by
      have hgd := HOK.out.ok.goodAt hk
      have hb := (step_links HOK.out.net hgd HOK.out.hl ht).1
      rw [hs0'.out] at hb
      rw [← hb]
      exact liveC_any l (w.heap.size + 1) s0 s1 s2 _ W (goodB_parts hgd).2.2 h0 (keep HG1.out hW)))
  clear hst hAl hok hs0
  go_enter Try.func66, Try.ntmps66
  go_wp2_with ((show wpList _ _ _ (⟨some 5, .load 73 (.tmp 2), _, _, _, _⟩ :: _) _ _); refine wpList_load_row rfl 73 (.tmp 2) rfl _ rfl 73 (spV p n BS mb G s.ms.length (.slice aa s.ar.length ac)) (0, 0) _ hz5 Try.underlying73 rfl Try.size73 ?_)
  refine HAT.out.mono ?_
  rintro e w4 ⟨b, rfl, hb, hbw⟩
  have HE := hide (show AtEnd s.ar (fun k => canT L (s.ms.getD k []) t) s.ms.length w (.returned (.bool b)) w4 from ⟨b, rfl, hb, HB0.out.trans (hbw.mono HB0.out.size)⟩)
  clear HAT hb hbw hz5
  go_wp2_with fail
  go_ret
  exact HE.out

set_option maxHeartbeats 2000000 in
theorem liveI_any (p : Int) (a am : Option Addr) (n c nm cm : Nat) (L : List (List Int)) (ys : List Int) (bg : Int) (w : World) (h : Lists w a (3 * n) L) (rm : Row w am nm ys) (hs : sizeN n L ≤ 1048576) (hnm : nm ≤ 1048576) :
    Calls Try.prog 32 #[.agg #[.int .i64 p, .slice a n c], .slice am nm cm, .int .i64 bg] w fun e w' => IlEnd p n L ys bg w e w' := by
  have hAl := below_al w (.cells #[.int .i64 p, .slice a n c] 35)
  have HX := hide (spaceOf_any p a am n c nm cm L ys bg _ (h.below hAl) (rm.below hAl) hs hnm)
  have HB0 := hide hAl
  clear h rm hAl
  go_enter Try.func32, Try.ntmps32
  go_wp2_with fail
  generalize w.alloc (.cells #[.int .i64 p, .slice a n c] 35) = v0 at *
  refine HX.out.mono ?_
  rintro e w1 ⟨hb1, hxx⟩
  have HB1 := hide (HB0.out.trans (hb1.mono HB0.out.size))
  clear hb1 HB0 HX
  have hg0 := heap_alloc_new w1 (.cells spZ 73)
  have hA3 := below_al w1 (.cells spZ 73)
  rcases hxx with ⟨hcode, s, BS, mb, G, av, hok, hst, ⟨aa, ac, rfl⟩, rfl⟩ | ⟨hcode, rfl⟩
  rotate_left
  · have HN := hide (ilEnd_no (w := w) hcode (below_setRow (HB1.out.trans (hA3.mono HB1.out.size)) w1.heap.size HB1.out.size spZ))
    obtain ⟨cd, hcd⟩ : ∃ cd, Hid (spCode p n L ys bg = cd) := ⟨_, rfl⟩
    rw [hcd.out] at hcode ⊢
    have hc1 : ¬ ((cd : Nat) : Int) = 1 := by omega
    have hbe : (((cd : Nat) : Int) != 1) = true := by simpa using hc1
    clear hcode hcd hA3
    go_wp2_with ((show wpList _ _ _ (⟨none, .store 73 (.tmp 8) (.tmp 17), _, _, _, _⟩ :: _) _ _); refine wpList_store_row rfl 73 _ _ rfl _ _ rfl rfl 73 _ hg0 Try.size73 rfl (one5 rfl rfl rfl rfl rfl) ?_)
    go_ret2
    exact HN.out
  have hV := below_setRow hA3 w1.heap.size (Nat.le_refl _) (spV p n BS mb G s.ms.length (.slice aa s.ar.length ac))
  have HB3 := hide (HB1.out.trans (hV.mono HB1.out.size))
  have HS3 := hide (hst.grow hV)
  have HV3 := hide (setRow_same hg0 (spV p n BS mb G s.ms.length (.slice aa s.ar.length ac)))
  have HN := hide (fun W b hx (hW : Below w.heap.size w W) => ilEnd_yes (w := w) (w' := W) (b := b) hcode hok hx hW)
  have HOK := hide hok
  have hn24 := hok.n24
  have HT := hide (fun k (hk : k < n) => mask16' (tri_rise (triOkOf hok.net hk)).1 hok.hp)
  clear hA3 hV hst HB1 hcode hok
  obtain ⟨⟨hc0, hc1, hc2, hc3, hc4⟩, _⟩ := cells5 HV3.out
  have hne : ((1 : Int) != 1) = false := by decide
  go_wp2_with ((show wpList _ _ _ (⟨none, .store 73 (.tmp 8) (.tmp 17), _, _, _, _⟩ :: _) _ _); refine wpList_store_row rfl 73 _ _ rfl _ _ rfl rfl 73 _ hg0 Try.size73 rfl (one5 rfl rfl rfl rfl rfl) ?_)
  clear hg0 hc0 hc1 hc2 hc3 hc4
  generalize (w1.alloc (.cells spZ 73)).setRow w1.heap.size (spV p n BS mb G s.ms.length (.slice aa s.ar.length ac)) = v3 at *
  generalize w1.heap.size = bm at *
  go_loopw [25] (fun i wr => ∃ k : Nat, k ≤ n ∧ i = .int .i64 k ∧ Hid (∀ t, t < k → LiveT s L t) ∧ Hid (Below v3.heap.size v3 wr)) (fun i _ => n - (intOf i).toNat)
  case atStart => exact ⟨0, Nat.zero_le _, rfl, fun t ht => absurd ht (by omega), Below.refl _ _⟩
  case round =>
    obtain ⟨k, hk, rfl, hu, hbw⟩ := hrel
    by_cases hlt : k < n
    rotate_left
    · have HE := hide (HN.out wr true ⟨fun _ t ht => hu.out t (by omega), fun _ => rfl⟩ (HB3.out.trans (hbw.out.mono HB3.out.size)))
      have hnl : ¬ (k : Int) < (n : Int) := by omega
      clear hu hlt hk
      go_wp2_with fail
      go_ret2
      exact HE.out
    obtain ⟨hc0, hc1, hc2⟩ := (HS3.out.steps.grow hbw.out).at2 hlt
    obtain ⟨s0, hs0⟩ : ∃ x, Hid (maskL (L.getD (3 * k) []) = x) := ⟨_, rfl⟩
    obtain ⟨s1, hs1⟩ : ∃ x, Hid (maskL (L.getD (3 * k + 1) []) = x) := ⟨_, rfl⟩
    obtain ⟨s2, hs2⟩ : ∃ x, Hid (maskL (L.getD (3 * k + 2) []) = x) := ⟨_, rfl⟩
    have h16 := HT.out k hlt
    rw [hs0.out] at hc0 h16
    rw [hs1.out] at hc1
    rw [hs2.out] at hc2
    have hA4 := below_al wr (.cells #[.int .u16 (s0 : Int), .int .u16 (s1 : Int), .int .u16 (s2 : Int)] 104)
    have HB4 := hide (hbw.out.trans (hA4.mono hbw.out.size))
    have hz5 := keep HV3.out HB4.out
    have hz6 := heap_alloc_new wr (.cells #[.int .u16 (s0 : Int), .int .u16 (s1 : Int), .int .u16 (s2 : Int)] 104)
    have hq0 := cell_of_row _ wr.heap.size 0 _ _ _ hz6
    have hq1 := cell_of_row _ wr.heap.size 1 _ _ _ hz6
    have hq2 := cell_of_row _ wr.heap.size 2 _ _ _ hz6
    simp at hq0 hq1 hq2
    have HNV := hide (never_any HOK.out v0.heap.size BS mb G s0 s1 s2 k aa ac _ (HS3.out.grow HB4.out) hlt h16 hs0.out)
    have hki : (k : Int) < (n : Int) := by omega
    clear hA4 h16
    go_wp2_with (first
      | ((show wpList _ _ _ (⟨some 29, .load 73 (.tmp 8), _, _, _, _⟩ :: _) _ _); refine wpList_load_row rfl 73 (.tmp 8) rfl _ rfl 73 (spV p n BS mb G s.ms.length (.slice aa s.ar.length ac)) (0, 0) _ hz5 Try.underlying73 rfl Try.size73 ?_)
      | ((show wpList _ _ _ (⟨some 30, .load 104 (.tmp 11), _, _, _, _⟩ :: _) _ _); refine wpList_load_row rfl 104 (.tmp 11) rfl _ rfl 104 #[.int .u16 (s0 : Int), .int .u16 (s1 : Int), .int .u16 (s2 : Int)] (0, 0) _ hz6 Try.underlying104 rfl Try.size104 ?_))
    refine HNV.out.mono ?_
    rintro e w4 ⟨b, rfl, hb, hbw4⟩
    have HB5 := hide (HB4.out.trans (hbw4.mono HB4.out.size))
    have HLT : Hid (b = true ↔ LiveT s L k) := hb
    clear HNV hb hbw4 hz5 hz6 hq0 hq1 hq2 hc0 hc1 hc2 hbw HB4
    cases b
    · have HE := hide (HN.out w4 false ⟨fun e => (by cases e), fun e => (HLT.out.2 (e k hlt))⟩ (HB3.out.trans (HB5.out.mono HB3.out.size)))
      clear hu HLT
      go_wp2_with fail
      go_ret2
      exact HE.out
    · have HU : Hid (∀ t, t < k + 1 → LiveT s L t) := fun t ht => by
        by_cases e : t = k
        · rw [e]; exact HLT.out.1 rfl
        · exact hu.out t (by omega)
      clear hu HLT
      go_wp2_with fail
      go_roundw
      case rel => exact ⟨k + 1, by omega, by go_num, HU, HB5⟩
      case measure => simp [intOf]; omega
end Go.Proofs.Ytedbihlpggficaa
