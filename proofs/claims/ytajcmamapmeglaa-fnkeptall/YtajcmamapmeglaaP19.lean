/- Contracts that the proof stands on, one behind the other. -/
import Derived.Test.YtajcmamapmeglaaP18
/- grow: a flow's net is grown, whatever the bytes. -/
namespace Go.Proofs.Ytajcmamapmeglaa
open Go.RowKit
set_option maxRecDepth 10000

/-- A list of transitions that is appended: each of its lists made now. -/
theorem news3 {B : Nat} {v : World} {a0 a1 a2 : Option Addr} {n0 n1 n2 c0 c1 c2 : Nat} {x0 x1 x2 : List Int} (h0 : NewL B v a0 n0 c0 x0) (h1 : NewL B v a1 n1 c1 x1) (h2 : NewL B v a2 n2 c2 x2) (m0 : n0 ≤ 20) (m1 : n1 ≤ 20) (m2 : n2 ≤ 20) :
    ∀ j, j < 3 * 1 → ∃ a n c xs, ([.slice a0 n0 c0, .slice a1 n1 c1, .slice a2 n2 c2] : List Value)[j]? = some (.slice a n c) ∧ n ≤ 20 ∧ NewL B v a n c xs := by
  intro j hj
  obtain h | h | h : j = 0 ∨ j = 1 ∨ j = 2 := by omega
  all_goals subst h
  · exact ⟨_, _, _, _, rfl, m0, h0⟩
  · exact ⟨_, _, _, _, rfl, m1, h1⟩
  · exact ⟨_, _, _, _, rfl, m2, h2⟩

theorem news6 {B : Nat} {v : World} {a0 a1 a2 a3 a4 a5 : Option Addr} {n0 n1 n2 n3 n4 n5 c0 c1 c2 c3 c4 c5 : Nat} {x0 x1 x2 x3 x4 x5 : List Int} (h0 : NewL B v a0 n0 c0 x0) (h1 : NewL B v a1 n1 c1 x1) (h2 : NewL B v a2 n2 c2 x2) (h3 : NewL B v a3 n3 c3 x3) (h4 : NewL B v a4 n4 c4 x4) (h5 : NewL B v a5 n5 c5 x5)
    (m0 : n0 ≤ 20) (m1 : n1 ≤ 20) (m2 : n2 ≤ 20) (m3 : n3 ≤ 20) (m4 : n4 ≤ 20) (m5 : n5 ≤ 20) :
    ∀ j, j < 3 * 2 → ∃ a n c xs, ([.slice a0 n0 c0, .slice a1 n1 c1, .slice a2 n2 c2, .slice a3 n3 c3, .slice a4 n4 c4, .slice a5 n5 c5] : List Value)[j]? = some (.slice a n c) ∧ n ≤ 20 ∧ NewL B v a n c xs := by
  intro j hj
  obtain h | h | h | h | h | h : j = 0 ∨ j = 1 ∨ j = 2 ∨ j = 3 ∨ j = 4 ∨ j = 5 := by omega
  all_goals subst h
  · exact ⟨_, _, _, _, rfl, m0, h0⟩
  · exact ⟨_, _, _, _, rfl, m1, h1⟩
  · exact ⟨_, _, _, _, rfl, m2, h2⟩
  · exact ⟨_, _, _, _, rfl, m3, h3⟩
  · exact ⟨_, _, _, _, rfl, m4, h4⟩
  · exact ⟨_, _, _, _, rfl, m5, h5⟩

theorem newNil (B : Nat) (v : World) : NewL B v none 0 0 [] := .inl ⟨rfl, rfl, rfl, rfl⟩

/-- What the operations of a fork's statement yield. -/
def forkG (B : Nat) (u : Value) (x pl : Int) (i : Nat) (v : Value) (w : World) : Prop :=
  match i with
  | 4 => v = u
  | 6 => ∃ a, v = .slice a 1 1 ∧ NewL B w a 1 1 [x]
  | 10 => ∃ a, v = .slice a 2 2 ∧ NewL B w a 2 2 [pl, pl + 1]
  | 16 => ∃ a, v = .slice a 2 2 ∧ NewL B w a 2 2 [pl + 2, pl + 3]
  | 18 => ∃ a n c xs, v = .slice a n c ∧ n ≤ 20 ∧ NewL B w a n c xs
  | 11 => ∃ a b, v = .agg #[.slice a 1 1, .slice b 2 2, .slice none 0 0] ∧ NewL B w a 1 1 [x] ∧ NewL B w b 2 2 [pl, pl + 1]
  | 19 => ∃ a b n c xs, v = .agg #[.slice a 2 2, .slice b n c, .slice none 0 0] ∧ n ≤ 20 ∧ NewL B w a 2 2 [pl + 2, pl + 3] ∧ NewL B w b n c xs
  | 20 => ∃ g a6 a10 a16 a18 n18 c18 xs, v = .slice (some ⟨g, 0, none⟩) 2 2 ∧ w.heap[g]? = some (.cells #[.slice a6 1 1, .slice a10 2 2, .slice none 0 0, .slice a16 2 2, .slice a18 n18 c18, .slice none 0 0] 106 (0, 0)) ∧ n18 ≤ 20 ∧ NewL B w a6 1 1 [x] ∧ NewL B w a10 2 2 [pl, pl + 1] ∧ NewL B w a16 2 2 [pl + 2, pl + 3] ∧ NewL B w a18 n18 c18 xs
  | _ => True

theorem forkG_mono {B : Nat} {u : Value} {x pl : Int} (i : Nat) (v : Value) (w w' : World) (h : forkG B u x pl i v w) (hb : Below w.heap.size w w') : forkG B u x pl i v w' := by
  unfold forkG at *
  split at h
  · exact h
  · obtain ⟨a, e, h1⟩ := h; exact ⟨a, e, h1.grown hb⟩
  · obtain ⟨a, e, h1⟩ := h; exact ⟨a, e, h1.grown hb⟩
  · obtain ⟨a, e, h1⟩ := h; exact ⟨a, e, h1.grown hb⟩
  · obtain ⟨a, n, c, xs, e, hn, h1⟩ := h; exact ⟨a, n, c, xs, e, hn, h1.grown hb⟩
  · obtain ⟨a, b, e, h1, h2⟩ := h; exact ⟨a, b, e, h1.grown hb, h2.grown hb⟩
  · obtain ⟨a, b, n, c, xs, e, hn, h1, h2⟩ := h; exact ⟨a, b, n, c, xs, e, hn, h1.grown hb, h2.grown hb⟩
  · obtain ⟨g, a6, a10, a16, a18, n18, c18, xs, e, hh, hn, h1, h2, h3, h4⟩ := h; exact ⟨g, a6, a10, a16, a18, n18, c18, xs, e, keep hh hb, hn, h1.grown hb, h2.grown hb, h3.grown hb, h4.grown hb⟩
  · trivial

section
variable {W v : World} {bc : Nat} {ca : Option Addr} {cn cc p : Nat} {bs : List Int} {V : Nat} {pl : Int} {u : Value} {k : Nat} {cells : List Value}

set_option maxHeartbeats 2000000 in
theorem grow_early (d : Nat) (x y : Int) (h : GrSt W v bc ca cn cc p bs V pl u k cells) (hk : k ≤ 60) (hd : d = 0 ∨ 9 < pl ∨ 12 < k) :
    Calls Try.prog 145 #[.pointer (some ⟨bc, 0, none⟩), .pointer (some ⟨V, 0, none⟩), .int .i64 x, .int .i64 y, .int .i64 (d : Int)] v fun e v' => GrEnd W bc ca cn cc p bs V pl k d 1 e v' := by
  obtain ⟨ua, uc, rfl⟩ := h.form
  have y1 : (v.alloc (.cells #[.int .i64 x] 3)).heap.size = v.heap.size + 1 := by simp
  have y2 : ((v.alloc (.cells #[.int .i64 x] 3)).alloc (.cells #[.int .i64 y] 3)).heap.size = v.heap.size + 1 + 1 := by simp
  have HA2 := hide (below_two v (.cells #[.int .i64 x] 3) (.cells #[.int .i64 y] 3))
  have hA3 := below_al ((v.alloc (.cells #[.int .i64 x] 3)).alloc (.cells #[.int .i64 y] 3)) (.cells #[.slice (some ⟨v.heap.size, 0, none⟩) 1 1, .slice (some ⟨v.heap.size + 1, 0, none⟩) 1 1, .slice none 0 0] 106)
  have HA := hide (HA2.out.trans (hA3.mono HA2.out.size))
  have L0 := ((newL1 v x).grown (below_al _ (.cells #[.int .i64 y] 3))).grown hA3
  have L1 := (newL1 (v.alloc (.cells #[.int .i64 x] 3)) y).grown hA3
  rw [y1] at L1
  have HNL := hide (news3 L0 (L1.mono (Nat.le_succ _)) (newNil v.heap.size _) (by decide) (by decide) (by decide))
  have HNW := hide (news3d ((v.alloc (.cells #[.int .i64 x] 3)).alloc (.cells #[.int .i64 y] 3)) (.slice (some ⟨v.heap.size, 0, none⟩) 1 1) (.slice (some ⟨v.heap.size + 1, 0, none⟩) 1 1) (.slice none 0 0))
  rw [y2] at HNW
  have HOWN := hide (h.net.grow HA.out).own
  have HV3 := hide ((HA.out.block V h.lt).trans h.var)
  have HVL := hide (row_lt HV3.out)
  have HG := hide h
  have hc0 := h.c0
  have hc1 := h.c1
  have hVl := h.lt
  obtain ⟨i1, hi1, hz0, hz1, hz2⟩ := info_split Try.info106
  have hgt : 1 ≤ grT d := by cases d <;> simp [grT] <;> omega
  clear h L0 L1 hA3 HA2 y1 y2
  have hcase : ((d : Int) = 0) ∨ (¬ (d : Int) = 0 ∧ 9 < pl) ∨ (¬ (d : Int) = 0 ∧ ¬ 9 < pl ∧ (12 : Int) < (k : Int)) := by omega
  go_enter Try.func145, Try.ntmps145
  rcases hcase with hq | ⟨hq, hq2⟩ | ⟨hq, hq2, hq3⟩
  all_goals
    go_wp2_with (at_builtin; refine wpList_append_lies _ rfl (.tmp 32) (.tmp 38) 24 rfl (V + 1) 106 i1 _ 3 72 Try.underlying24 hi1 hz0 hz1 hz2 rfl (by decide) (.slice ua k uc) k cells rfl HOWN.out ⟨v.heap.size + 1 + 1, 0, none⟩ 1 1 [.slice (some ⟨v.heap.size, 0, none⟩) 1 1, .slice (some ⟨v.heap.size + 1, 0, none⟩) 1 1, .slice none 0 0] rfl rfl HNW.out (by simp [Value.oneCell']) (by decide) (by unfold maxLen; omega) (by omega) (by have := HVL.out; omega) (v.heap.size + 1 + 1 + 1) (by simp) ?_; intro g cp W' hown hgr hlies hglt; have hV' := (hgr.block V HVL.out (fun e => by have := HOWN.out.lt V e.symm; omega)).trans HV3.out; have hz3 : W'.cell? ⟨V, 1, none⟩ = some (.slice ua k uc) := cell_of_row W' V 1 _ _ _ hV'; have hz4 : W'.frozen? ⟨V, 1, none⟩ = false := frozen_of_row W' V 1 _ _ hV')
    have S3 := hide (HG.out.append (m := 1) HA.out HNL.out hown hgr (by simpa using hlies))
    refine bodyPost_ret (results_none rfl _ _ _) rfl ?_
    exact ⟨p, pl, _, k + 1, _, rfl, S3, Nat.le_refl _, by omega, Int.le_refl _, by omega, Nat.le_refl _, by omega⟩

set_option maxHeartbeats 4000000 in
theorem grow_step (d : Nat) (x y : Int) (ih : ∀ (x y : Int) (v : World) (p : Nat) (pl : Int) (u : Value) (k : Nat) (cells : List Value), GrSt W v bc ca cn cc p bs V pl u k cells → p + grC d ≤ 900000 → 0 ≤ pl → pl + grP d ≤ 60 → k + grT d ≤ 60 →
      Calls Try.prog 145 #[.pointer (some ⟨bc, 0, none⟩), .pointer (some ⟨V, 0, none⟩), .int .i64 x, .int .i64 y, .int .i64 (d : Int)] v fun e v' => GrEnd W bc ca cn cc p bs V pl k d 1 e v')
    (h : GrSt W v bc ca cn cc p bs V pl u k cells) (hcn : cn ≤ 1048576) (hp : p + grC (d + 1) ≤ 900000) (hpl : 0 ≤ pl) (hpl2 : pl + grP (d + 1) ≤ 60) (hk : k + grT (d + 1) ≤ 60) (hd : d ≤ 100) (hd1 : ¬ 9 < pl) (hd2 : ¬ 12 < k) :
    Calls Try.prog 145 #[.pointer (some ⟨bc, 0, none⟩), .pointer (some ⟨V, 0, none⟩), .int .i64 x, .int .i64 y, .int .i64 ((d + 1 : Nat) : Int)] v fun e v' => GrEnd W bc ca cn cc p bs V pl k (d + 1) 2 e v' := by
  obtain ⟨ua, uc, rfl⟩ := h.form
  have IH := hide ih
  have HG := hide h
  have hc0 := h.c0
  have hc1 := h.c1
  have hVl := h.lt
  have hq : ¬ ((d + 1 : Nat) : Int) = 0 := by omega
  have hq2 : ¬ (12 : Int) < (k : Int) := by omega
  have hds : ((d + 1 : Nat) : Int) - 1 = (d : Int) := by omega
  have eT : grT (d + 1) = 2 + 2 * grT d := rfl
  have eP : grP (d + 1) = 4 + 2 * grP d := rfl
  have eC : grC (d + 1) = 1 + 2 * grC d := rfl
  obtain ⟨i1, hi1, hz0, hz1, hz2⟩ := info_split Try.info106
  clear h ih
  go_enter Try.func145, Try.ntmps145
  go_wp2_with fail
  refine (pick_any 5 bc ca cn cc p bs _ HG.out.cur HG.out.bytes (by omega) hcn (by omega) (by omega)).mono ?_
  rintro e v1 ⟨r, rfl, hr, hcur, ho⟩
  have H1 := hide (HG.out.go (Kept.of_only ho) hcur)
  clear HG hcur ho hc0 hc1 hVl
  have hc0 := H1.out.c0
  have hc1 := H1.out.c1
  have hf0 := H1.out.f0
  have hVl := H1.out.lt
  obtain hr0 | hr0 | hr0 | hr0 | hr0 : r = 0 ∨ r = 1 ∨ r = 2 ∨ r = 3 ∨ r = 4 := by omega
  all_goals subst hr0
  · have H2 := hide (H1.out.places (pl + 1))
    go_wp2_with fail
    refine (IH.out x pl _ (p + 1) (pl + 1) _ k cells H2.out (by omega) (by omega) (by omega) (by omega)).mono ?_
    rintro e v3 ⟨p3, pl3, u3, k3, cells3, rfl, H3, b1, b2, b3, b4, b5, b6⟩
    go_wp2_with fail
    refine (IH.out pl y _ p3 pl3 u3 k3 cells3 H3.out (by omega) (by omega) (by omega) (by omega)).mono ?_
    rintro e v4 ⟨p4, pl4, u4, k4, cells4, rfl, H4, d1, d2, d3, d4, d5, d6⟩
    go_wp2_with fail
    refine bodyPost_end (results_none rfl _ _ _) rfl ?_
    exact ⟨p4, pl4, u4, k4, cells4, rfl, H4, by omega, by omega, by omega, by omega, by omega, by omega⟩
  · have H2 := hide (H1.out.places (pl + 1))
    go_wp2_with fail
    refine (IH.out x pl _ (p + 1) (pl + 1) _ k cells H2.out (by omega) (by omega) (by omega) (by omega)).mono ?_
    rintro e v3 ⟨p3, pl3, u3, k3, cells3, rfl, H3, b1, b2, b3, b4, b5, b6⟩
    go_wp2_with fail
    refine (IH.out pl y _ p3 pl3 u3 k3 cells3 H3.out (by omega) (by omega) (by omega) (by omega)).mono ?_
    rintro e v4 ⟨p4, pl4, u4, k4, cells4, rfl, H4, d1, d2, d3, d4, d5, d6⟩
    go_wp2_with fail
    refine bodyPost_end (results_none rfl _ _ _) rfl ?_
    exact ⟨p4, pl4, u4, k4, cells4, rfl, H4, by omega, by omega, by omega, by omega, by omega, by omega⟩
  · go_wp2_with fail
    refine (IH.out x y _ (p + 1) pl _ k cells H1.out (by omega) (by omega) (by omega) (by omega)).mono ?_
    rintro e v3 ⟨p3, pl3, u3, k3, cells3, rfl, H3, b1, b2, b3, b4, b5, b6⟩
    go_wp2_with fail
    refine (IH.out x y _ p3 pl3 u3 k3 cells3 H3.out (by omega) (by omega) (by omega) (by omega)).mono ?_
    rintro e v4 ⟨p4, pl4, u4, k4, cells4, rfl, H4, d1, d2, d3, d4, d5, d6⟩
    go_wp2_with fail
    refine bodyPost_end (results_none rfl _ _ _) rfl ?_
    exact ⟨p4, pl4, u4, k4, cells4, rfl, H4, by omega, by omega, by omega, by omega, by omega, by omega⟩
  · go_upto_region 18 with fail
    have H2 := hide (H1.out.places (pl + 4))
    generalize v1.setCell ⟨V, 0, none⟩ (.int .i64 (pl + 4)) = v2 at *
    clear H1 hc0 hc1 hf0 hVl
    have hc1 := H2.out.c1
    have hVl := H2.out.lt
    refine wp_region_held_drew (S := fun _ => True) (by kernel_rfl) trivial (fun hHeld => ?_)
    refine take_yes (i := 0) (some 140) (.pointer (some ⟨V, 0, none⟩)) rfl rfl (by kernel_rfl) (by kernel_rfl) (by kernel_rfl) (fun _ _ _ h => h) (by rfl) (fun W' _ => by go_simp) trivial ?_
    simp only [Act.put, List.setIfInBounds_toArray, List.set_cons_zero, List.set_cons_succ]
    refine take_yes (i := 1) (some 141) (.pointer (some ⟨V, 0, none⟩)) rfl rfl (by kernel_rfl) (by kernel_rfl) (by kernel_rfl) (fun _ _ _ h => h) (by rfl) (fun W' _ => by go_simp) trivial ?_
    simp only [Act.put, List.setIfInBounds_toArray, List.set_cons_zero, List.set_cons_succ]
    refine take_yes (i := 2) (some 142) (.pointer (some ⟨V, 0, none⟩)) rfl rfl (by kernel_rfl) (by kernel_rfl) (by kernel_rfl) (fun _ _ _ h => h) (by rfl) (fun W' _ => by go_simp) trivial ?_
    simp only [Act.put, List.setIfInBounds_toArray, List.set_cons_zero, List.set_cons_succ]
    refine take_yes (i := 3) (some 143) (.pointer (some ⟨V, 1, none⟩)) rfl rfl (by kernel_rfl) (by kernel_rfl) (by kernel_rfl) (fun _ _ _ h => h) (by rfl) (fun W' _ => by go_simp) trivial ?_
    simp only [Act.put, List.setIfInBounds_toArray, List.set_cons_zero, List.set_cons_succ]
    refine take_yes (i := 5) (some 145) (.int .i64 x) rfl rfl (by kernel_rfl) (by kernel_rfl) (by kernel_rfl) (fun _ _ _ h => h) (by rfl) (fun W' _ => by go_simp) trivial ?_
    simp only [Act.put, List.setIfInBounds_toArray, List.set_cons_zero, List.set_cons_succ]
    refine take_yes (i := 7) (some 147) (.int .i64 pl) rfl rfl (by kernel_rfl) (by kernel_rfl) (by kernel_rfl) (fun _ _ _ h => h) (by rfl) (fun W' _ => by go_simp) trivial ?_
    simp only [Act.put, List.setIfInBounds_toArray, List.set_cons_zero, List.set_cons_succ]
    refine take_yes (i := 8) (some 148) (.int .i64 pl) rfl rfl (by kernel_rfl) (by kernel_rfl) (by kernel_rfl) (fun _ _ _ h => h) (by rfl) (fun W' _ => by go_simp) trivial ?_
    simp only [Act.put, List.setIfInBounds_toArray, List.set_cons_zero, List.set_cons_succ]
    refine take_yes (i := 9) (some 149) (.int .i64 (pl + 1)) rfl rfl (by kernel_rfl) (by kernel_rfl) (by kernel_rfl) (fun _ _ _ h => h) (by rfl) (fun W' _ => by go_simp; exact IntWalk.i64_in _ (by omega)) trivial ?_
    simp only [Act.put, List.setIfInBounds_toArray, List.set_cons_zero, List.set_cons_succ]
    refine take_yes (i := 12) (some 152) (.int .i64 pl) rfl rfl (by kernel_rfl) (by kernel_rfl) (by kernel_rfl) (fun _ _ _ h => h) (by rfl) (fun W' _ => by go_simp) trivial ?_
    simp only [Act.put, List.setIfInBounds_toArray, List.set_cons_zero, List.set_cons_succ]
    refine take_yes (i := 13) (some 153) (.int .i64 (pl + 2)) rfl rfl (by kernel_rfl) (by kernel_rfl) (by kernel_rfl) (fun _ _ _ h => h) (by rfl) (fun W' _ => by go_simp; exact IntWalk.i64_in _ (by omega)) trivial ?_
    simp only [Act.put, List.setIfInBounds_toArray, List.set_cons_zero, List.set_cons_succ]
    refine take_yes (i := 14) (some 154) (.int .i64 pl) rfl rfl (by kernel_rfl) (by kernel_rfl) (by kernel_rfl) (fun _ _ _ h => h) (by rfl) (fun W' _ => by go_simp) trivial ?_
    simp only [Act.put, List.setIfInBounds_toArray, List.set_cons_zero, List.set_cons_succ]
    refine take_yes (i := 15) (some 155) (.int .i64 (pl + 3)) rfl rfl (by kernel_rfl) (by kernel_rfl) (by kernel_rfl) (fun _ _ _ h => h) (by rfl) (fun W' _ => by go_simp; exact IntWalk.i64_in _ (by omega)) trivial ?_
    simp only [Act.put, List.setIfInBounds_toArray, List.set_cons_zero, List.set_cons_succ]
    refine take_yes (i := 17) (some 157) (.int .i64 y) rfl rfl (by kernel_rfl) (by kernel_rfl) (by kernel_rfl) (fun _ _ _ h => h) (by rfl) (fun W' _ => by go_simp) trivial ?_
    simp only [Act.put, List.setIfInBounds_toArray, List.set_cons_zero, List.set_cons_succ]
    have HV2 := hide H2.out.var
    refine any_make [4, 6, 10, 11, 16, 18, 19, 20] (fun i => i + 140) (fun i => if i = 11 then [6, 10] else if i = 19 then [16, 18] else if i = 20 then [11, 19] else []) v2 (forkG v2.heap.size (.slice ua k uc) x pl) (fuel := 4) forkG_mono (by decide) (fun i _ j _ h => by simpa using h) (by kernel_rfl) (by decide) (by kernel_rfl) (by kernel_rfl) (fun _ => trivial) ?_ (Below.refl _ v2).drew ?_
    · intro i hi a z w o ho hoth hdeps hb K hK
      simp only [List.mem_cons, List.not_mem_nil, or_false] at hi
      rcases hi with rfl | rfl | rfl | rfl | rfl | rfl | rfl | rfl
      all_goals obtain rfl := Option.some.inj ho
      · have e1 := evalD (v := .pointer (some ⟨V, 1, none⟩)) ((hoth 143 (by decide)).trans rfl)
        have hcw : w.cell? ⟨V, 1, none⟩ = some (.slice ua k uc) := cell_of_row w V 1 _ _ _ ((hb.block V hVl).trans HV2.out)
        exact oper_val rfl (v := .slice ua k uc) (w' := w) (by go_simp) (hK _ _ rfl (Below.refl _ _))
      · have e1 := evalD (v := .int .i64 x) ((hoth 145 (by decide)).trans rfl)
        exact oper_val rfl (v := .slice (some ⟨w.heap.size, 0, none⟩) 1 1) (w' := w.alloc (.cells #[.int .i64 x] 3)) (by go_simp) (hK _ _ ⟨_, rfl, (newL1 w x).mono hb.size⟩ (below_al w _))
      · have e1 := evalD (v := .int .i64 pl) ((hoth 147 (by decide)).trans rfl)
        have e2 := evalD (v := .int .i64 (pl + 1)) ((hoth 149 (by decide)).trans rfl)
        exact oper_val rfl (v := .slice (some ⟨w.heap.size, 0, none⟩) 2 2) (w' := w.alloc (.cells #[.int .i64 pl, .int .i64 (pl + 1)] 3)) (by go_simp) (hK _ _ ⟨_, rfl, (newL2 w pl (pl + 1)).mono hb.size⟩ (below_al w _))
      · obtain ⟨e1, a6, ez1, l1⟩ := hdeps 6 (by decide)
        obtain ⟨e2, a10, ez2, l2⟩ := hdeps 10 (by decide)
        have e1' : a.tmps[146]?.getD undef = .slice a6 1 1 := evalD (e1.trans ez1)
        have e2' : a.tmps[150]?.getD undef = .slice a10 2 2 := evalD (e2.trans ez2)
        exact oper_val rfl (v := .agg #[.slice a6 1 1, .slice a10 2 2, .slice none 0 0]) (w' := w) (by go_simp) (hK _ _ ⟨_, _, rfl, l1, l2⟩ (Below.refl _ _))
      · have e1 := evalD (v := .int .i64 (pl + 2)) ((hoth 153 (by decide)).trans rfl)
        have e2 := evalD (v := .int .i64 (pl + 3)) ((hoth 155 (by decide)).trans rfl)
        exact oper_val rfl (v := .slice (some ⟨w.heap.size, 0, none⟩) 2 2) (w' := w.alloc (.cells #[.int .i64 (pl + 2), .int .i64 (pl + 3)] 3)) (by go_simp) (hK _ _ ⟨_, rfl, (newL2 w (pl + 2) (pl + 3)).mono hb.size⟩ (below_al w _))
      · have e1 : a.eval (.tmp 157) = .int .i64 y := (hoth 157 (by decide)).trans rfl
        refine oper_call rfl 144 _ _ _ rfl Try.func144 (by decide) rfl #[.slice none 0 0, .int .i64 y] (mapw2 _ _ _ _ _ rfl e1) _ (put_nil y w) ?_
        rintro e w' ⟨g, m', c', ys, rfl, h1, h2, h3, h4, h5, h6, h7⟩
        exact ⟨_, rfl, hK _ _ ⟨_, m', c', ys, rfl, by omega, .inr ⟨g, rfl, by have := hb.size; omega, h1, h3, h4, h5⟩⟩ h7⟩
      · obtain ⟨e1, a16, ez1, l1⟩ := hdeps 16 (by decide)
        obtain ⟨e2, a18, n18, c18, xs18, ez2, hn18, l2⟩ := hdeps 18 (by decide)
        have e1' : a.tmps[156]?.getD undef = .slice a16 2 2 := evalD (e1.trans ez1)
        have e2' : a.tmps[158]?.getD undef = .slice a18 n18 c18 := evalD (e2.trans ez2)
        exact oper_val rfl (v := .agg #[.slice a16 2 2, .slice a18 n18 c18, .slice none 0 0]) (w' := w) (by go_simp) (hK _ _ ⟨_, _, _, _, _, rfl, hn18, l1, l2⟩ (Below.refl _ _))
      · obtain ⟨e1, a6, a10, ez1, l6, l10⟩ := hdeps 11 (by decide)
        obtain ⟨e2, a16, a18, n18, c18, xs18, ez2, hn18, l16, l18⟩ := hdeps 19 (by decide)
        have e1' : a.tmps[151]?.getD undef = .agg #[.slice a6 1 1, .slice a10 2 2, .slice none 0 0] := evalD (e1.trans ez1)
        have e2' : a.tmps[159]?.getD undef = .agg #[.slice a16 2 2, .slice a18 n18 c18, .slice none 0 0] := evalD (e2.trans ez2)
        have hA := below_al w (.cells #[.slice a6 1 1, .slice a10 2 2, .slice none 0 0, .slice a16 2 2, .slice a18 n18 c18, .slice none 0 0] 106)
        exact oper_val rfl (v := .slice (some ⟨w.heap.size, 0, none⟩) 2 2) (w' := w.alloc (.cells #[.slice a6 1 1, .slice a10 2 2, .slice none 0 0, .slice a16 2 2, .slice a18 n18 c18, .slice none 0 0] 106)) (by go_simp) (hK _ _ ⟨_, a6, a10, a16, a18, n18, c18, xs18, rfl, heap_alloc_new _ _, hn18, l6.grown hA, l10.grown hA, l16.grown hA, l18.grown hA⟩ hA)
    · intro z w3 hb3 hG
      have e4 : z 4 = .slice ua k uc := hG 4 (by decide)
      obtain ⟨b0, a6, a10, a16, a18, n18, c18, xs18, e20, hb0, hn18, l6, l10, l16, l18⟩ := hG 20 (by decide)
      clear hG
      simp only [frmD, lstD, if_true, Act.put, List.setIfInBounds_toArray, List.set_cons_zero, List.set_cons_succ, e4, e20]
      have HA := hide hb3
      have HNL := hide (news6 l6 l10 (newNil v2.heap.size _) l16 l18 (newNil v2.heap.size _) (by decide) (by decide) (by decide) (by decide) hn18 (by decide))
      have HNW := hide (World.news_of_block hb0)
      have HOWN := hide (H2.out.net.grow HA.out).own
      have HV3 := hide ((HA.out.block V hVl).trans H2.out.var)
      have HVL := hide (row_lt HV3.out)
      refine wpAnyH_ready (rs := [21]) (by kernel_rfl) (by simp) (AllReadyH.cons rfl (fun K hK => ?_) AllReadyH.nil)
      refine step_appWd (some 161) rfl (by rfl) (.tmp 144) (.tmp 160) 24 (by rfl) (V + 1) 106 i1 _ 3 72 Try.underlying24 hi1 hz0 hz1 hz2 (by rfl) (by decide) (.slice ua k uc) k cells (by rfl) HOWN.out ⟨b0, 0, none⟩ 2 2 [.slice a6 1 1, .slice a10 2 2, .slice none 0 0, .slice a16 2 2, .slice a18 n18 c18, .slice none 0 0] (by rfl) (by rfl) HNW.out (by simp [Value.oneCell']) (by decide) (by unfold maxLen; omega) (by omega) (by have := HVL.out; omega) w3.heap.size rfl ?_
      intro g cp W' hown hgr hlies hglt
      have hV' := (hgr.block V HVL.out (fun e => by have := HOWN.out.lt V e.symm; omega)).trans HV3.out
      refine hK.out _ _ trivial (fun _ => ?_)
      clear hK K
      simp only [Act.put, List.setIfInBounds_toArray, List.set_cons_zero, List.set_cons_succ]
      refine take_yes (i := 22) (some 162) (.pointer (some ⟨V, 0, none⟩)) rfl rfl (by kernel_rfl) (by kernel_rfl) (by kernel_rfl) (fun _ _ _ h => h) (by rfl) (fun W' _ => by go_simp) trivial ?_
      simp only [Act.put, List.setIfInBounds_toArray, List.set_cons_zero, List.set_cons_succ]
      refine take_yes (i := 23) (some 163) (.pointer (some ⟨V, 1, none⟩)) rfl rfl (by kernel_rfl) (by kernel_rfl) (by kernel_rfl) (fun _ _ _ h => h) (by rfl) (fun W' _ => by go_simp) trivial ?_
      simp only [Act.put, List.setIfInBounds_toArray, List.set_cons_zero, List.set_cons_succ]
      refine store_one_next (i := 24) rfl rfl (by kernel_rfl) (by rfl) 24 _ _ rfl V 1 (some ⟨g, 0, none⟩) (k + 2) cp rfl rfl _ 26 hV' (by simp) (by kernel_rfl) trivial (fun _ => ?_)
      refine wpAnyH_done (by kernel_rfl) ?_ _
      have S3 := hide (H2.out.append (m := 2) HA.out HNL.out hown hgr hlies)
      clear hown hgr hlies hglt hV' HNW HOWN HA HNL H2 HV2 HV3 HVL hb3 l6 l10 l16 l18 e4 e20 hc1 hVl
      go_wp2_with fail
      refine (IH.out pl (pl + 2) _ (p + 1) (pl + 4) _ (k + 2) _ S3.out (by omega) (by omega) (by omega) (by omega)).mono ?_
      rintro e v3 ⟨p3, pl3, u3, k3, cells3, rfl, H3, b1, b2, b3, b4, b5, b6⟩
      go_wp2_with fail
      refine (IH.out (pl + 1) (pl + 3) _ p3 pl3 u3 k3 cells3 H3.out (by omega) (by omega) (by omega) (by omega)).mono ?_
      rintro e v4 ⟨p4, pl4, u4, k4, cells4, rfl, H4, d1, d2, d3, d4, d5, d6⟩
      go_wp2_with fail
      refine bodyPost_end (results_none rfl _ _ _) rfl ?_
      exact ⟨p4, pl4, u4, k4, cells4, rfl, H4, by omega, by omega, by omega, by omega, by omega, by omega⟩
  · go_upto_region 5 with fail
    have H2 := hide (H1.out.places (pl + 2))
    generalize v1.setCell ⟨V, 0, none⟩ (.int .i64 (pl + 2)) = v2 at *
    clear H1 hc0 hc1 hf0 hVl
    have hc1 := H2.out.c1
    have hVl := H2.out.lt
    have y1 : (v2.alloc (.cells #[.int .i64 x] 3)).heap.size = v2.heap.size + 1 := by simp
    have y2 : ((v2.alloc (.cells #[.int .i64 x] 3)).alloc (.cells #[.int .i64 pl] 3)).heap.size = v2.heap.size + 1 + 1 := by simp
    have y3 : (((v2.alloc (.cells #[.int .i64 x] 3)).alloc (.cells #[.int .i64 pl] 3)).alloc (.cells #[.int .i64 (pl + 1)] 3)).heap.size = v2.heap.size + 1 + 1 + 1 := by simp
    have y4 : ((((v2.alloc (.cells #[.int .i64 x] 3)).alloc (.cells #[.int .i64 pl] 3)).alloc (.cells #[.int .i64 (pl + 1)] 3)).alloc (.cells #[.int .i64 y] 3)).heap.size = v2.heap.size + 1 + 1 + 1 + 1 := by simp
    have hA1 := below_al v2 (.cells #[.int .i64 x] 3)
    have hA2 := below_al (v2.alloc (.cells #[.int .i64 x] 3)) (.cells #[.int .i64 pl] 3)
    have hA3 := below_al ((v2.alloc (.cells #[.int .i64 x] 3)).alloc (.cells #[.int .i64 pl] 3)) (.cells #[.int .i64 (pl + 1)] 3)
    have hA4 := below_al (((v2.alloc (.cells #[.int .i64 x] 3)).alloc (.cells #[.int .i64 pl] 3)).alloc (.cells #[.int .i64 (pl + 1)] 3)) (.cells #[.int .i64 y] 3)
    have hA5 := below_al ((((v2.alloc (.cells #[.int .i64 x] 3)).alloc (.cells #[.int .i64 pl] 3)).alloc (.cells #[.int .i64 (pl + 1)] 3)).alloc (.cells #[.int .i64 y] 3)) (.cells #[.slice (some ⟨v2.heap.size, 0, none⟩) 1 1, .slice (some ⟨v2.heap.size + 1, 0, none⟩) 1 1, .slice none 0 0, .slice (some ⟨v2.heap.size + 1 + 1, 0, none⟩) 1 1, .slice (some ⟨v2.heap.size + 1 + 1 + 1, 0, none⟩) 1 1, .slice none 0 0] 106)
    have HA := hide (hA1.trans ((hA2.trans ((hA3.trans ((hA4.trans (hA5.mono hA4.size)).mono hA3.size)).mono hA2.size)).mono hA1.size))
    have L0 := ((((newL1 v2 x).grown hA2).grown hA3).grown hA4).grown hA5
    have L1 := (((newL1 (v2.alloc (.cells #[.int .i64 x] 3)) pl).grown hA3).grown hA4).grown hA5
    have L2 := ((newL1 ((v2.alloc (.cells #[.int .i64 x] 3)).alloc (.cells #[.int .i64 pl] 3)) (pl + 1)).grown hA4).grown hA5
    have L3 := (newL1 (((v2.alloc (.cells #[.int .i64 x] 3)).alloc (.cells #[.int .i64 pl] 3)).alloc (.cells #[.int .i64 (pl + 1)] 3)) y).grown hA5
    rw [y1] at L1
    rw [y2] at L2
    rw [y3] at L3
    have HNL := hide (news6 L0 (L1.mono (by omega)) (newNil v2.heap.size _) (L2.mono (by omega)) (L3.mono (by omega)) (newNil v2.heap.size _) (by decide) (by decide) (by decide) (by decide) (by decide) (by decide))
    have HNW := hide (World.news_of_block (heap_alloc_new ((((v2.alloc (.cells #[.int .i64 x] 3)).alloc (.cells #[.int .i64 pl] 3)).alloc (.cells #[.int .i64 (pl + 1)] 3)).alloc (.cells #[.int .i64 y] 3)) (.cells #[.slice (some ⟨v2.heap.size, 0, none⟩) 1 1, .slice (some ⟨v2.heap.size + 1, 0, none⟩) 1 1, .slice none 0 0, .slice (some ⟨v2.heap.size + 1 + 1, 0, none⟩) 1 1, .slice (some ⟨v2.heap.size + 1 + 1 + 1, 0, none⟩) 1 1, .slice none 0 0] 106)))
    rw [y4] at HNW
    have HOWN := hide (H2.out.net.grow HA.out).own
    have HV3 := hide ((HA.out.block V hVl).trans H2.out.var)
    have HVL := hide (row_lt HV3.out)
    clear y1 y2 y3 y4 hA1 hA2 hA3 hA4 hA5 L0 L1 L2 L3
    go_wp2_with (at_builtin; refine wpList_append_lies _ rfl (.tmp 59) (.tmp 71) 24 rfl (V + 1) 106 i1 _ 3 72 Try.underlying24 hi1 hz0 hz1 hz2 rfl (by decide) (.slice ua k uc) k cells rfl HOWN.out ⟨v2.heap.size + 1 + 1 + 1 + 1, 0, none⟩ 2 2 [.slice (some ⟨v2.heap.size, 0, none⟩) 1 1, .slice (some ⟨v2.heap.size + 1, 0, none⟩) 1 1, .slice none 0 0, .slice (some ⟨v2.heap.size + 1 + 1, 0, none⟩) 1 1, .slice (some ⟨v2.heap.size + 1 + 1 + 1, 0, none⟩) 1 1, .slice none 0 0] rfl rfl HNW.out (by simp [Value.oneCell']) (by decide) (by unfold maxLen; omega) (by omega) (by have := HVL.out; omega) (v2.heap.size + 1 + 1 + 1 + 1 + 1) (by simp) ?_; intro g cp W' hown hgr hlies hglt; have hV' := (hgr.block V HVL.out (fun e => by have := HOWN.out.lt V e.symm; omega)).trans HV3.out; have hz3 : W'.cell? ⟨V, 1, none⟩ = some (.slice ua k uc) := cell_of_row W' V 1 _ _ _ hV'; have hz4 : W'.frozen? ⟨V, 1, none⟩ = false := frozen_of_row W' V 1 _ _ hV')
    have S3 := hide (H2.out.append (m := 2) HA.out HNL.out hown hgr (by simpa using hlies))
    clear hown hgr hlies hglt hV' hz3 hz4 HNW HOWN HA HNL H2
    refine (IH.out pl (pl + 1) _ (p + 1) (pl + 2) _ (k + 2) _ S3.out (by omega) (by omega) (by omega) (by omega)).mono ?_
    rintro e v3 ⟨p3, pl3, u3, k3, cells3, rfl, H3, b1, b2, b3, b4, b5, b6⟩
    go_wp2_with fail
    refine (IH.out (pl + 1) pl _ p3 pl3 u3 k3 cells3 H3.out (by omega) (by omega) (by omega) (by omega)).mono ?_
    rintro e v4 ⟨p4, pl4, u4, k4, cells4, rfl, H4, d1, d2, d3, d4, d5, d6⟩
    go_wp2_with fail
    refine bodyPost_end (results_none rfl _ _ _) rfl ?_
    exact ⟨p4, pl4, u4, k4, cells4, rfl, H4, by omega, by omega, by omega, by omega, by omega, by omega⟩

theorem GrEnd.less {d m m' : Nat} {e : Ending} {v' : World} (h : GrEnd W bc ca cn cc p bs V pl k d m e v') (hm : m' ≤ m) : GrEnd W bc ca cn cc p bs V pl k d m' e v' := by
  obtain ⟨p', pl', u', k', cells', e1, h1, h2, h3, h4, h5, h6, h7⟩ := h
  exact ⟨p', pl', u', k', cells', e1, h1, h2, h3, h4, h5, by omega, h7⟩

theorem grow_draw (hcn : cn ≤ 1048576) (d : Nat) (hd : d ≤ 100) : ∀ (x y : Int) (v : World) (p : Nat) (pl : Int) (u : Value) (k : Nat) (cells : List Value), GrSt W v bc ca cn cc p bs V pl u k cells → p + grC d ≤ 900000 → 0 ≤ pl → pl + grP d ≤ 60 → k + grT d ≤ 60 →
    Calls Try.prog 145 #[.pointer (some ⟨bc, 0, none⟩), .pointer (some ⟨V, 0, none⟩), .int .i64 x, .int .i64 y, .int .i64 (d : Int)] v fun e v' => GrEnd W bc ca cn cc p bs V pl k d (if d = 0 ∨ 9 < pl ∨ 12 < k then 1 else 2) e v' := by
  induction d with
  | zero =>
    intro x y v p pl u k cells h hp h0 h1 hk
    rw [if_pos (.inl rfl)]
    exact grow_early 0 x y h (by omega) (.inl rfl)
  | succ d ih =>
    intro x y v p pl u k cells h hp h0 h1 hk
    by_cases he : 9 < pl ∨ 12 < k
    · rw [if_pos (.inr he)]
      exact grow_early (d + 1) x y h (by omega) (.inr he)
    · rw [if_neg (by omega)]
      refine grow_step d x y (fun x y v p pl u k cells h a1 a2 a3 a4 => (ih (by omega) x y v p pl u k cells h a1 a2 a3 a4).mono fun e v' hh => hh.less (by split <;> omega)) h hcn hp h0 h1 hk (by omega) (fun h => he (.inl h)) (fun h => he (.inr h))
end
end Go.Proofs.Ytajcmamapmeglaa


/- What is there while a flow is drawn, once its net is grown. -/
namespace Go.Proofs.Ytajcmamapmeglaa
open Go.RowKit
set_option maxRecDepth 10000

/-- W: the world ahead of the draw; the flow lies in the block F. -/
structure FlSt (M : Nat) (W v : World) (bc : Nat) (ca : Option Addr) (cn cc p : Nat) (bs : List Int) (F : Nat) (pl : Int) (u : Value) (k : Nat) (cells : List Value) (s t : Int) : Prop where
  var : v.heap[F]? = some (.cells #[.int .i64 pl, u, .int .i64 s, .int .i64 t] 121 (0, 0))
  hF : W.heap.size ≤ F
  hc : bc < W.heap.size
  net : NetW M W.heap.size v u k cells
  farU : u.ownBlock ≠ some F
  farL : ∀ j a n c, j < 3 * k → cells[j]? = some (.slice a n c) → ∀ o, a = some o → o.block ≠ F
  cur : Cur v bc ca cn cc p
  was : RowB W ca cn bs
  apart : Apart ca cn bc
  kept : Kept bc W.heap.size W v

section
variable {M : Nat} {W v v' v2 X : World} {bc : Nat} {ca : Option Addr} {cn cc p p' : Nat} {bs : List Int} {F : Nat} {pl : Int} {u : Value} {k : Nat} {cells : List Value} {s t : Int}

theorem NetW.lt {B : Nat} (h : NetW M B v u k cells) {j : Nat} {a : Option Addr} {n c : Nat} (hj : j < 3 * k) (hc : cells[j]? = some (.slice a n c)) {o : Addr} (ho : a = some o) : B ≤ o.block ∧ o.block < v.heap.size := by
  obtain ⟨a', n', c', xs, e, _, hl, _⟩ := h.tris j hj
  rw [hc] at e
  obtain ⟨rfl, rfl, rfl⟩ : a = a' ∧ n = n' ∧ c = c' := by simpa using e
  exact hl.lt ho

/-- The flow's variable is made of the net that was grown. -/
theorem GrSt.flow {V : Nat} (h : GrSt W v bc ca cn cc p bs V pl u k cells) (s t : Int) : FlSt 20 W (v.alloc (.cells #[.int .i64 pl, u, .int .i64 s, .int .i64 t] 121)) bc ca cn cc p bs v.heap.size pl u k cells s t := by
  have hA := below_al v (.cells #[.int .i64 pl, u, .int .i64 s, .int .i64 t] 121)
  have hV := h.hV
  have hk := h.kept.size
  refine ⟨heap_alloc_new _ _, hk, h.hc, (h.net.low (by omega)).grow hA, fun e => ?_, fun j a n c hj hc o ho e => ?_, h.cur.below hA h.cur.lt, h.was, h.apart, h.kept.trans (Kept.of_below (hA.mono hk))⟩
  · have := h.net.own.lt _ e; omega
  · have := (h.net.lt hj hc ho).2; omega

theorem FlSt.wide {M' : Nat} (h : FlSt M W v bc ca cn cc p bs F pl u k cells s t) (hM : M ≤ M') : FlSt M' W v bc ca cn cc p bs F pl u k cells s t :=
  ⟨h.var, h.hF, h.hc, h.net.wide hM, h.farU, h.farL, h.cur, h.was, h.apart, h.kept⟩
theorem FlSt.lt (h : FlSt M W v bc ca cn cc p bs F pl u k cells s t) : F < v.heap.size := (Array.getElem?_eq_some_iff.mp h.var).1
theorem FlSt.bytes (h : FlSt M W v bc ca cn cc p bs F pl u k cells s t) : RowB v ca cn bs := h.was.kept h.kept h.apart

theorem FlSt.go (h : FlSt M W v bc ca cn cc p bs F pl u k cells s t) (hk : Kept bc v.heap.size v v') (hc : Cur v' bc ca cn cc p') : FlSt M W v' bc ca cn cc p' bs F pl u k cells s t := by
  have hlt := h.lt
  have hF := h.hF
  have hb := h.hc
  exact ⟨(hk.block F hlt (by omega)).trans h.var, hF, hb, h.net.kept hk (Nat.le_refl _) (by omega), h.farU, h.farL, hc, h.was, h.apart, h.kept.trans (hk.mono h.kept.size)⟩

theorem FlSt.grow (h : FlSt M W v bc ca cn cc p bs F pl u k cells s t) (hk : Below v.heap.size v v') : FlSt M W v' bc ca cn cc p bs F pl u k cells s t :=
  h.go (Kept.of_below hk) (h.cur.below hk h.cur.lt)

/-- Where only the block F is another one. -/
theorem NetW.farF {B : Nat} (h : NetW M B v u k cells) (hu : u.ownBlock ≠ some F) (hl : ∀ j a n c, j < 3 * k → cells[j]? = some (.slice a n c) → ∀ o, a = some o → o.block ≠ F) (hs : v.heap.size ≤ v'.heap.size) (hk : ∀ q, q ≠ F → v'.heap[q]? = v.heap[q]?) : NetW M B v' u k cells := by
  refine ⟨⟨h.own.1, ?_⟩, fun j hj => ?_⟩
  · rcases h.own.2 with hn | ⟨g, cp, cur, e, hg, hh, r⟩
    · exact .inl hn
    · refine .inr ⟨g, cp, cur, e, hg, (hk g fun e' => hu ?_).trans hh, r⟩
      rw [e, ← e']; rfl
  · obtain ⟨a, n, c, xs, e, hn, hl', hd⟩ := h.tris j hj
    exact ⟨a, n, c, xs, e, hn, hl'.keep hs fun g hg hlt ⟨o, ho, hog⟩ => hk g (fun e' => hl j a n c hj e o ho (hog.trans e')), hd⟩

theorem FlSt.setTo (h : FlSt M W v bc ca cn cc p bs F pl u k cells s t) (x : Int) : FlSt M W (v.setCell ⟨F, 3, none⟩ (.int .i64 x)) bc ca cn cc p bs F pl u k cells s x := by
  have hF := h.hF
  have hb := h.hc
  have hset : ∀ q, q ≠ F → (v.setCell ⟨F, 3, none⟩ (.int .i64 x)).heap[q]? = v.heap[q]? := fun q hq => Below.heap_setCell _ _ _ _ hq
  refine ⟨?_, hF, hb, h.net.farF h.farU h.farL (by simp [World.setCell]) hset, h.farU, h.farL, ?_, h.was, h.apart, h.kept.trans (Kept.of_below ((Below.refl _ v).setCell (p := ⟨F, 3, none⟩) hF _))⟩
  · rw [heap_setCell_same v F 3 _ _ _ h.var]; rfl
  · obtain ⟨q, hq⟩ := h.cur
    exact ⟨q, (hset bc (by omega)).trans hq⟩

/-- m transitions are appended. -/
theorem FlSt.append {m g cp : Nat} {news : List Value} (h : FlSt M W v bc ca cn cc p bs F pl u k cells s t) (hv2 : Below v.heap.size v v2)
    (hnew : ∀ j, j < 3 * m → ∃ a n c xs, news[j]? = some (.slice a n c) ∧ n ≤ M ∧ NewL v.heap.size v2 a n c xs)
    (hown : X.ownsRow W.heap.size 106 3 (.slice (some ⟨g, 0, none⟩) (k + m) cp) (k + m) (cells ++ news)) (hgr : v2.grownBy X u.ownBlock) (hl : u.ownBlock = some g ∨ g = v2.heap.size) :
    FlSt M W (X.setCell ⟨F, 1, none⟩ (.slice (some ⟨g, 0, none⟩) (k + m) cp)) bc ca cn cc p bs F pl (.slice (some ⟨g, 0, none⟩) (k + m) cp) (k + m) (cells ++ news) s t := by
  have hFl := h.lt
  have hF := h.hF
  have hb := h.hc
  have hbs := hv2.size
  have hkz := h.kept.size
  have hob : ∀ q, u.ownBlock = some q → W.heap.size ≤ q ∧ q < v.heap.size := h.net.own.lt
  have hcl : cells.length = 3 * k := by have := h.net.own.1; omega
  have hgF : g ≠ F := fun e => by
    rcases hl with hl | hl
    · exact h.farU (by rw [hl, e])
    · omega
  have N := (h.net.grow hv2).append (m := m) (fun j hj => by
    obtain ⟨a, n, c, xs, e, hn, hl⟩ := hnew j hj
    exact ⟨a, n, c, xs, e, hn, hl.mono (by omega), fun o ho e => by have := (hl.lt ho).1; have := hob _ e; omega⟩) hown hgr hl
  have fU : (Value.slice (some ⟨g, 0, none⟩) (k + m) cp).ownBlock ≠ some F := fun e => hgF (by simpa [Value.ownBlock] using e)
  have fL : ∀ j a n c, j < 3 * (k + m) → (cells ++ news)[j]? = some (.slice a n c) → ∀ o, a = some o → o.block ≠ F := by
    intro j a n c hj hc o ho e
    by_cases hjk : j < 3 * k
    · rw [List.getElem?_append_left (by omega)] at hc
      exact h.farL j a n c hjk hc o ho e
    · rw [List.getElem?_append_right (by omega), hcl] at hc
      obtain ⟨a', n', c', xs, e', _, hl'⟩ := hnew (j - 3 * k) (by omega)
      rw [hc] at e'
      obtain ⟨rfl, rfl, rfl⟩ : a = a' ∧ n = n' ∧ c = c' := by simpa using e'
      have := (hl'.lt ho).1
      omega
  have hset : ∀ q, q ≠ F → (X.setCell ⟨F, 1, none⟩ (.slice (some ⟨g, 0, none⟩) (k + m) cp)).heap[q]? = X.heap[q]? := fun q hq => Below.heap_setCell _ _ _ _ hq
  have hWs : X.heap.size ≤ (X.setCell ⟨F, 1, none⟩ (.slice (some ⟨g, 0, none⟩) (k + m) cp)).heap.size := by simp [World.setCell]
  have oldF : X.heap[F]? = v.heap[F]? := (hgr.block F (by omega) fun e => h.farU e.symm).trans (hv2.block F hFl)
  have oldc : X.heap[bc]? = v.heap[bc]? := (hgr.block bc (by omega) fun e => by have := hob bc e.symm; omega).trans (hv2.block bc (by omega))
  have hBel : Below W.heap.size v2 (X.setCell ⟨F, 1, none⟩ (.slice (some ⟨g, 0, none⟩) (k + m) cp)) := by
    refine Below.setCell (p := ⟨F, 1, none⟩) ?_ hF _
    exact (Below.refl W.heap.size v2).grown hgr (by omega) fun q hq => (hob q hq).1
  refine ⟨?_, hF, hb, N.farF fU fL hWs hset, fU, fL, ?_, h.was, h.apart, h.kept.trans (Kept.of_below ((hv2.mono (by omega)).trans hBel))⟩
  · rw [heap_setCell_same X F 1 _ _ _ (oldF.trans h.var)]; rfl
  · obtain ⟨q, hq⟩ := h.cur
    exact ⟨q, (hset bc (by omega)).trans (oldc.trans hq)⟩

/-- A list of a transition is set. -/
theorem FlSt.set {g cp j n c : Nat} {a : Option Addr} {xs : List Int} (h : FlSt M W v bc ca cn cc p bs F pl (.slice (some ⟨g, 0, none⟩) k cp) k cells s t) (hj : j < 3 * k) (hn : NewL W.heap.size v a n c xs) (hn2 : n ≤ M) (hd : ∀ o, a = some o → o.block ≠ g ∧ o.block ≠ F) :
    FlSt M W (v.setCell ⟨g, j, none⟩ (.slice a n c)) bc ca cn cc p bs F pl (.slice (some ⟨g, 0, none⟩) k cp) k (cells.set j (.slice a n c)) s t := by
  have hF := h.hF
  have hb := h.hc
  have hg : W.heap.size ≤ g ∧ g < v.heap.size := h.net.own.lt g rfl
  have hgF : g ≠ F := fun e => h.farU (by rw [e]; rfl)
  have hset : ∀ q, q ≠ g → (v.setCell ⟨g, j, none⟩ (.slice a n c)).heap[q]? = v.heap[q]? := fun q hq => Below.heap_setCell _ _ _ _ hq
  refine ⟨(hset F (fun e => hgF e.symm)).trans h.var, hF, hb, h.net.set hj hn hn2 fun o ho => (hd o ho).1, h.farU, fun i a' n' c' hi hc o ho => ?_, ?_, h.was, h.apart, h.kept.trans (Kept.of_below ((Below.refl _ v).setCell (p := ⟨g, j, none⟩) hg.1 _))⟩
  · by_cases hij : i = j
    · subst hij
      have hcl : cells.length = 3 * k := by have := h.net.own.1; omega
      rw [List.getElem?_set_self (by omega)] at hc
      obtain ⟨rfl, rfl, rfl⟩ : a = a' ∧ n = n' ∧ c = c' := by simpa using hc
      exact (hd o ho).2
    · rw [List.getElem?_set_ne (fun e => hij e.symm)] at hc
      exact h.farL i a' n' c' hi hc o ho
  · obtain ⟨q, hq⟩ := h.cur
    exact ⟨q, (hset bc (by omega)).trans hq⟩

theorem FlSt.cells4 (h : FlSt M W v bc ca cn cc p bs F pl u k cells s t) : v.cell? ⟨F, 0, none⟩ = some (.int .i64 pl) ∧ v.cell? ⟨F, 1, none⟩ = some u ∧ v.cell? ⟨F, 2, none⟩ = some (.int .i64 s) ∧ v.cell? ⟨F, 3, none⟩ = some (.int .i64 t) :=
  ⟨cell_of_row v F 0 _ _ _ h.var, cell_of_row v F 1 _ _ _ h.var, cell_of_row v F 2 _ _ _ h.var, cell_of_row v F 3 _ _ _ h.var⟩

/-- What the transition's list is. -/
theorem FlSt.list {g cp j : Nat} (h : FlSt M W v bc ca cn cc p bs F pl (.slice (some ⟨g, 0, none⟩) k cp) k cells s t) (hj : j < 3 * k) : ∃ a n c xs, v.cell? ⟨g, j, none⟩ = some (.slice a n c) ∧ v.frozen? ⟨g, j, none⟩ = false ∧ n ≤ M ∧ NewL W.heap.size v a n c xs ∧ ∀ o, a = some o → o.block ≠ g ∧ o.block ≠ F := by
  obtain ⟨a, n, c, xs, e, hn, hl, hd⟩ := h.net.tris j hj
  rcases h.net.own.2 with ⟨e1, _⟩ | ⟨g', cp', cur, e1, hg, hh, r1, r2, r3, r4⟩
  · simp at e1
  · obtain ⟨rfl, rfl⟩ : g = g' ∧ cp = cp' := by simpa using e1
    refine ⟨a, n, c, xs, ?_, frozen_of_row v g j _ _ hh, hn, hl, fun o ho => ⟨fun e2 => hd o ho (by rw [e2]; rfl), h.farL j a n c hj e o ho⟩⟩
    rw [cell_of_row v g j cur _ _ hh]
    have e2 : (cur.toList.take (k * 3))[j]? = cells[j]? := by rw [r4]
    rw [List.getElem?_take_of_lt (by omega), Array.getElem?_toList] at e2
    rw [e2, e]
end
end Go.Proofs.Ytajcmamapmeglaa
