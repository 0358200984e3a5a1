/- Contracts that the proof stands on, one behind the other. -/
import Derived.Test.YtegabkegbhglfaaP13
/- The nets drawn by walked: DrawStepBack, DrawExplore, DrawIsLive, DrawBoundOf, whatever the bytes; nothing that was there is written. -/
namespace Go.Proofs.Ytegabkegbhglfaa
open Go.RowKit
set_option maxRecDepth 10000

/-- Behind walked, until the draw ends. -/
structure DrSt (w W : World) (B T bc R V : Nat) (ca : Option Addr) (cn cc p : Nat) (bs : List Int) (pl : Int) (ua : Option Addr) (k uc : Nat) (L : List (List Int)) (a : Option Addr) (n : Nat) (xs : List Int) : Prop where
  res : W.heap[R]? = some (.cells #[.int .i64 0, .slice none 0 0] 39 (0, 0))
  box : W.heap[V]? = some (.cells #[.int .i64 pl, .slice ua k uc] 39 (0, 0))
  stab : ∀ W', T ≤ W'.heap.size → (∀ q, B ≤ q → q < T → W'.heap[q]? = W.heap[q]?) → Lists W' ua (3 * k) L ∧ Row W' a n xs
  low : T ≤ W.heap.size
  cur : Cur W bc ca cn cc p
  byt : RowB W ca cn bs
  kept : Below w.heap.size w W

theorem DrSt.go {w W W' : World} {B T bc R V cn cc p p' k uc n : Nat} {ca ua a : Option Addr} {bs xs : List Int} {pl : Int} {L : List (List Int)} (h : DrSt w W B T bc R V ca cn cc p bs pl ua k uc L a n xs) (hk : Kept bc W.heap.size W W') (hc : Cur W' bc ca cn cc p') (hb : bc < B) (hR : R ≠ bc) (hV : V ≠ bc) (hw : w.heap.size ≤ bc) (hap : Apart ca cn bc) : DrSt w W' B T bc R V ca cn cc p' bs pl ua k uc L a n xs :=
  ⟨(hk.block R (row_lt h.res) hR).trans h.res, (hk.block V (row_lt h.box) hV).trans h.box, fun W2 h1 h2 => h.stab W2 h1 fun q hq1 hq2 => (h2 q hq1 hq2).trans (hk.block q (Nat.lt_of_lt_of_le hq2 h.low) (by omega)), Nat.le_trans h.low hk.size, hc, h.byt.kept hk hap, h.kept.trans ((hk.mono h.kept.size).below hw)⟩

/-- What a draw leaves stays while what lies from B to T stays. -/
def Stab (B : Nat) (w' : World) (ua : Option Addr) (k : Nat) (L : List (List Int)) (a : Option Addr) (n : Nat) (xs : List Int) : Prop :=
  ∀ W, w'.heap.size ≤ W.heap.size → (∀ q, B ≤ q → q < w'.heap.size → W.heap[q]? = w'.heap[q]?) → Lists W ua (3 * k) L ∧ Row W a n xs

theorem DrSt.done {w W : World} {B T bc R V cn cc p k uc n : Nat} {ca ua a : Option Addr} {bs xs : List Int} {pl : Int} {L : List (List Int)} (h : DrSt w W B T bc R V ca cn cc p bs pl ua k uc L a n xs) (hw : w.heap.size ≤ R) (hB : R < B) (D : Array Value) : Stab w.heap.size (W.setRow R D) ua k L a n xs ∧ Below w.heap.size w (W.setRow R D) := by
  have hz : (W.setRow R D).heap.size = W.heap.size := by simp [World.setRow]
  have hl := h.low
  refine ⟨fun W' h1 h2 => h.stab W' (by omega) fun q hq1 hq2 => (h2 q (by omega) (by omega)).trans (setRow_otherW _ (by omega) _), h.kept.os, h.kept.tape, h.kept.output, by rw [hz]; exact h.kept.size, fun q hq => (setRow_otherW _ (by omega) _).trans (h.kept.block q hq)⟩

set_option maxHeartbeats 400000 in
theorem budget_draw (bc : Nat) (ca : Option Addr) (cn cc p : Nat) (bs : List Int) (w : World) (h : Cur w bc ca cn cc p) (hr : RowB w ca cn bs) (hap : Apart ca cn bc) (hp : p ≤ 1000000) (hn : cn ≤ 1048576) :
    Calls Try.prog 67 #[.pointer (some ⟨bc, 0, none⟩)] w fun e w' => ∃ x : Int, e = .returned (.int .i64 x) ∧ (0 ≤ x ∧ x ≤ 401) ∧ Cur w' bc ca cn cc (p + 1) ∧ Kept bc w.heap.size w w' := by
  have hbc := h.lt
  have HB := hide ((Below.refl w.heap.size w).alloc (Nat.le_refl _) (.cells (cellsOf [1, 5, 20, 100, 100, 400, 401, 0]) 3))
  have HN := hide (among_any 8 8 (some ⟨w.heap.size, 0, none⟩) [1, 5, 20, 100, 100, 400, 401, 0] bc ca cn cc p bs (w.alloc (.cells (cellsOf [1, 5, 20, 100, 100, 400, 401, 0]) 3)) (h.below HB.out hbc) (hr.kept (Kept.of_below HB.out) hap) hp hn (by omega) (by omega)
    (row_new w _ 8 _ rfl rfl) (by intro _ x hx; obtain rfl := Option.some.inj hx; simp; omega))
  clear h hr
  go_enter Try.func67, Try.ntmps67
  go_wp2_with fail
  refine HN.out.mono ?_
  rintro e w1 ⟨x, rfl, hx, hcur, ho⟩
  have HC := hide hcur
  have HO := hide ho
  have hx2 : 0 ≤ x ∧ x ≤ 401 := by simp at hx; omega
  clear hcur ho hx
  go_wp2
  go_ret
  exact ⟨x, rfl, hx2, HC.out, (Kept.of_below HB.out).trans (Kept.of_only HO.out)⟩

theorem step_num (r r2 : Nat) (hr : r < 6) (hr2 : r2 < 12) : IntKind.i64.wrap ((r : Int) - IntKind.i64.wrap ((r2 : Int) / 11)) = (r : Int) - (r2 : Int) / 11 := by
  have e1 : IntKind.i64.wrap ((r2 : Int) / 11) = (r2 : Int) / 11 := by rw [IntKind.wrap_i64]; omega
  rw [e1, IntKind.wrap_i64]; omega

def SBDr (w : World) (e : Ending) (w' : World) : Prop :=
  ∃ (pl : Int) (ua : Option Addr) (k uc : Nat) (L : List (List Int)) (a : Option Addr) (n c : Nat) (xs : List Int) (t : Int), e = .returned (.tuple #[.agg #[.int .i64 pl, .slice ua k uc], .int .i64 t, .slice a n c]) ∧ (0 ≤ pl ∧ pl ≤ 60) ∧ k ≤ 61 ∧ sizeN k L ≤ 6400 ∧ n ≤ 60 ∧ Stab w.heap.size w' ua k L a n xs ∧ Below w.heap.size w w' ∧ (-1 ≤ t ∧ t ≤ 5)

set_option maxHeartbeats 2000000 in
theorem drawSB_any (ca : Option Addr) (cn cc : Nat) (bs : List Int) (w : World) (hr : RowB w ca cn bs) (hn : cn ≤ 1048576) :
    Calls Try.prog 45 #[.slice ca cn cc] w fun e w' => SBDr w e w' := by
  have hA := below_al w (.cells #[.int .i64 0, .slice none 0 0] 39)
  have hA2 := below_al (w.alloc (.cells #[.int .i64 0, .slice none 0 0] 39)) (.cells #[.slice ca cn cc, .int .i64 0, .int .u64 0] 75)
  have HB := hide (hA.trans (hA2.mono hA.size))
  have HR := hide (hr.below HB.out)
  have HAP : Hid (Apart ca cn (w.heap.size + 1)) := fun h0 y hy => by have := hr.far h0 y hy; omega
  have HC : Hid (Cur ((w.alloc (.cells #[.int .i64 0, .slice none 0 0] 39)).alloc (.cells #[.slice ca cn cc, .int .i64 0, .int .u64 0] 75)) (w.heap.size + 1) ca cn cc 0) := ⟨0, by have := heap_alloc_new (w.alloc (.cells #[.int .i64 0, .slice none 0 0] 39)) (.cells #[.slice ca cn cc, .int .i64 0, .int .u64 0] 75); simpa using this⟩
  have HRES : Hid (((w.alloc (.cells #[.int .i64 0, .slice none 0 0] 39)).alloc (.cells #[.slice ca cn cc, .int .i64 0, .int .u64 0] 75)).heap[w.heap.size]? = some (.cells #[.int .i64 0, .slice none 0 0] 39 (0, 0))) := by
    show ((w.alloc _).alloc _).heap[w.heap.size]? = _
    rw [hA2.block _ (by simp)]; exact heap_alloc_new _ _
  have HSZ : Hid (((w.alloc (.cells #[.int .i64 0, .slice none 0 0] 39)).alloc (.cells #[.slice ca cn cc, .int .i64 0, .int .u64 0] 75)).heap.size = w.heap.size + 2) := by show _ = _; simp
  clear hr hA hA2
  go_enter Try.func45, Try.ntmps45
  go_wp2_with fail
  generalize (w.alloc (.cells #[.int .i64 0, .slice none 0 0] 39)).alloc (.cells #[.slice ca cn cc, .int .i64 0, .int .u64 0] 75) = w2 at HB HR HC HRES HSZ ⊢
  generalize hbb : w.heap.size + 1 = bc at HAP HC HSZ ⊢
  refine (walked_draw bc ca cn cc 0 bs _ HC.out HR.out HAP.out (by omega) hn).mono ?_
  rintro e v1 ⟨pl, ua, k, uc, L, a, n, c, xs, p1, rfl, hpl, hk, hsz, hn60, hp1, hstab, hcur, hby, hkp⟩
  have hA := below_al v1 (.cells #[.int .i64 pl, .slice ua k uc] 39)
  have hz2 := HSZ.out
  have hz1 := hkp.size
  have hbl := hcur.lt
  obtain ⟨B, hB⟩ : ∃ B, B = w2.heap.size := ⟨_, rfl⟩
  have S1 : Hid (DrSt w (v1.alloc (.cells #[.int .i64 pl, .slice ua k uc] 39)) B v1.heap.size bc w.heap.size v1.heap.size ca cn cc p1 bs pl ua k uc L a n xs) :=
    ⟨(hA.block _ (by omega)).trans ((hkp.block _ (by omega) (by omega)).trans HRES.out), heap_alloc_new v1 _,
      fun W' h1 h2 => hstab W' h1 fun q hq1 hq2 => (h2 q (by omega) hq2).trans (hA.block q hq2), hA.size, hcur.below hA hbl, hby.kept (Kept.of_below (bc := bc) hA) HAP.out,
      (HB.out.trans ((hkp.mono HB.out.size).below (by omega))).trans (hA.mono (by omega))⟩
  have hbB : bc < B := by omega
  have hRb : w.heap.size ≠ bc := by omega
  have hVb : v1.heap.size ≠ bc := by omega
  have hwb : w.heap.size ≤ bc := by omega
  have hRB : w.heap.size < B := by omega
  have hVR : v1.heap.size ≠ w.heap.size := by omega
  clear HB HR HC HRES HSZ hstab hcur hby hkp hA hz2 hz1 hbl hB hbb
  go_wp2_with fail
  generalize v1.alloc (.cells #[.int .i64 pl, .slice ua k uc] 39) = W3 at S1 ⊢
  generalize v1.heap.size = V at *
  have S2 := hide (S1.out.go (Kept.of_below (bc := bc) (Below.refl _ W3).drew) (S1.out.cur.below (Below.refl _ W3).drew S1.out.cur.lt) hbB hRb hVb hwb HAP.out)
  clear S1
  refine wp_region_held_drew (S := (fun W : World => W.heap[V]? = some (.cells #[.int .i64 pl, .slice ua k uc] 39 (0, 0)))) (by kernel_rfl) S2.out.box (fun hHeld => ?_)
  have hSv : (fun W : World => W.heap[V]? = some (.cells #[.int .i64 pl, .slice ua k uc] 39 (0, 0))) W3.drew := S2.out.box
  clear hHeld
  generalize W3.drew = vd at *
  refine take_yes (i := 0) (some 16) (.agg #[.int .i64 pl, .slice ua k uc]) rfl rfl (by kernel_rfl) (by kernel_rfl) (by kernel_rfl) (fun _ _ _ h => h) (by rfl) ?_ (by assumption) ?_
  · intro W' hSw
    exact exec_load_rowW 39 _ rfl _ rfl 39 _ _ _ hSw Try.underlying39 rfl Try.size39w
  simp only [Act.put, List.setIfInBounds_toArray, List.set_cons_zero, List.set_cons_succ]
  refine take_yes (i := 1) (some 17) (.pointer (some ⟨bc, 0, none⟩)) rfl rfl (by kernel_rfl) (by kernel_rfl) (by kernel_rfl) (fun _ _ _ h => h) (by rfl) ?_ (by assumption) ?_
  · intro W' hSw
    go_simp
  simp only [Act.put, List.setIfInBounds_toArray, List.set_cons_zero, List.set_cons_succ]
  refine take_yes (i := 3) (some 19) (.pointer (some ⟨bc, 0, none⟩)) rfl rfl (by kernel_rfl) (by kernel_rfl) (by kernel_rfl) (fun _ _ _ h => h) (by rfl) ?_ (by assumption) ?_
  · intro W' hSw
    go_simp
  simp only [Act.put, List.setIfInBounds_toArray, List.set_cons_zero, List.set_cons_succ]
  refine take_yes (i := 7) (some 23) (.slice a n c) rfl rfl (by kernel_rfl) (by kernel_rfl) (by kernel_rfl) (fun _ _ _ h => h) (by rfl) ?_ (by assumption) ?_
  · intro W' hSw
    go_simp
  simp only [Act.put, List.setIfInBounds_toArray, List.set_cons_zero, List.set_cons_succ]
  refine call_next (i := 2) (some 18) rfl rfl (by kernel_rfl) (by rfl) 51 _ _ _ rfl Try.func51 (by decide) rfl #[.pointer (some ⟨bc, 0, none⟩), .int .i64 6] (mapw2 _ _ _ _ _ rfl rfl) _ (pick_any 6 bc ca cn cc p1 bs _ S2.out.cur S2.out.byt (by omega) hn (by omega) (by omega)) ?_
  rintro e v3 ⟨r, rfl, hr, hcur, hkp⟩
  have S3 := hide (S2.out.go (Kept.of_only hkp) hcur hbB hRb hVb hwb HAP.out)
  clear S2 hSv hcur hkp
  refine ⟨_, rfl, S3.out.box, fun hSv => ?_⟩
  simp only [Act.put, List.setIfInBounds_toArray, List.set_cons_zero, List.set_cons_succ]
  refine call_next (i := 4) (some 20) rfl rfl (by kernel_rfl) (by rfl) 51 _ _ _ rfl Try.func51 (by decide) rfl #[.pointer (some ⟨bc, 0, none⟩), .int .i64 12] (mapw2 _ _ _ _ _ rfl rfl) _ (pick_any 12 bc ca cn cc (p1 + 1) bs _ S3.out.cur S3.out.byt (by omega) hn (by omega) (by omega)) ?_
  rintro e v4 ⟨r2, rfl, hr2, hcur, hkp⟩
  have S4 := hide (S3.out.go (Kept.of_only hkp) hcur hbB hRb hVb hwb HAP.out)
  clear S3 hSv hcur hkp
  refine ⟨_, rfl, S4.out.box, fun hSv => ?_⟩
  simp only [Act.put, List.setIfInBounds_toArray, List.set_cons_zero, List.set_cons_succ]
  refine take_yes (i := 5) (some 21) (.int .i64 (IntKind.i64.wrap ((r2 : Int) / 11))) rfl rfl (by kernel_rfl) (by kernel_rfl) (by kernel_rfl) (fun _ _ _ h => h) (by rfl) ?_ (by assumption) ?_
  · intro W' hSw
    go_simp
  simp only [Act.put, List.setIfInBounds_toArray, List.set_cons_zero, List.set_cons_succ]
  refine take_yes (i := 6) (some 22) (.int .i64 (IntKind.i64.wrap ((r : Int) - IntKind.i64.wrap ((r2 : Int) / 11)))) rfl rfl (by kernel_rfl) (by kernel_rfl) (by kernel_rfl) (fun _ _ _ h => h) (by rfl) ?_ (by assumption) ?_
  · intro W' hSw
    go_simp
  simp only [Act.put, List.setIfInBounds_toArray, List.set_cons_zero, List.set_cons_succ]
  have hg0 := S4.out.res
  have hnone : (#[.int .i64 pl, .slice ua k uc] : Array Value).all (·.oneCell') = true := by simp [Value.oneCell']
  have hS5 : (fun W : World => W.heap[V]? = some (.cells #[.int .i64 pl, .slice ua k uc] 39 (0, 0))) (v4.setRow w.heap.size #[.int .i64 pl, .slice ua k uc]) := (setRow_otherW _ hVR _).trans S4.out.box
  obtain ⟨hfl, hfb⟩ := S4.out.done (Nat.le_refl _) hRB #[.int .i64 pl, .slice ua k uc]
  have HE : Hid (SBDr w (.returned (.tuple #[.agg #[.int .i64 pl, .slice ua k uc], .int .i64 (IntKind.i64.wrap ((r : Int) - IntKind.i64.wrap ((r2 : Int) / 11))), .slice a n c])) (v4.setRow w.heap.size #[.int .i64 pl, .slice ua k uc])) := ⟨pl, ua, k, uc, L, a, n, c, xs, _, rfl, hpl, hk, hsz, hn60, hfl, hfb, by rw [step_num r r2 hr hr2]; omega⟩
  have hz5 := setRow_sameW hg0 #[.int .i64 pl, .slice ua k uc]
  have hy0 := cell_of_row _ w.heap.size 0 _ _ _ hz5
  have hy1 := cell_of_row _ w.heap.size 1 _ _ _ hz5
  simp at hy0 hy1
  clear hfl hfb hSv
  refine store_next (i := 8) rfl rfl (by kernel_rfl) (by rfl) 39 _ _ rfl w.heap.size #[.int .i64 pl, .slice ua k uc] rfl rfl 39 _ hg0 Try.size39w rfl hnone hS5 (fun _ => ?_)
  refine take_yes (i := 9) (some 3) (.int .i64 (IntKind.i64.wrap ((r : Int) - IntKind.i64.wrap ((r2 : Int) / 11)))) rfl rfl (by kernel_rfl) (by kernel_rfl) (by kernel_rfl) (fun _ _ _ h => h) (by rfl) ?_ (by assumption) ?_
  · intro W' hSw
    go_simp
  simp only [Act.put, List.setIfInBounds_toArray, List.set_cons_zero, List.set_cons_succ]
  refine take_yes (i := 10) (some 4) (.slice a n c) rfl rfl (by kernel_rfl) (by kernel_rfl) (by kernel_rfl) (fun _ _ _ h => h) (by rfl) ?_ (by assumption) ?_
  · intro W' hSw
    go_simp
  simp only [Act.put, List.setIfInBounds_toArray, List.set_cons_zero, List.set_cons_succ]
  refine wpAnyH_done (by kernel_rfl) ?_ _
  go_wp2_with fail
  refine bodyPost_ret (v := .tuple #[.agg #[.int .i64 pl, .slice ua k uc], .int .i64 (IntKind.i64.wrap ((r : Int) - IntKind.i64.wrap ((r2 : Int) / 11))), .slice a n c]) (by simp [results, Try.results45, go_sem, hy0, hy1]) rfl ?_
  exact HE.out

def XpDr (w : World) (e : Ending) (w' : World) : Prop :=
  ∃ (pl : Int) (ua : Option Addr) (k uc : Nat) (L : List (List Int)) (a : Option Addr) (n c : Nat) (xs : List Int) (bg : Int), e = .returned (.tuple #[.agg #[.int .i64 pl, .slice ua k uc], .slice a n c, .int .i64 bg]) ∧ (0 ≤ pl ∧ pl ≤ 60) ∧ k ≤ 61 ∧ sizeN k L ≤ 6400 ∧ n ≤ 60 ∧ Stab w.heap.size w' ua k L a n xs ∧ Below w.heap.size w w' ∧ (0 ≤ bg ∧ bg ≤ 401)

set_option maxHeartbeats 2000000 in
theorem drawXp_any (ca : Option Addr) (cn cc : Nat) (bs : List Int) (w : World) (hr : RowB w ca cn bs) (hn : cn ≤ 1048576) :
    Calls Try.prog 17 #[.slice ca cn cc] w fun e w' => XpDr w e w' := by
  have hA := below_al w (.cells #[.int .i64 0, .slice none 0 0] 39)
  have hA2 := below_al (w.alloc (.cells #[.int .i64 0, .slice none 0 0] 39)) (.cells #[.slice ca cn cc, .int .i64 0, .int .u64 0] 75)
  have HB := hide (hA.trans (hA2.mono hA.size))
  have HR := hide (hr.below HB.out)
  have HAP : Hid (Apart ca cn (w.heap.size + 1)) := fun h0 y hy => by have := hr.far h0 y hy; omega
  have HC : Hid (Cur ((w.alloc (.cells #[.int .i64 0, .slice none 0 0] 39)).alloc (.cells #[.slice ca cn cc, .int .i64 0, .int .u64 0] 75)) (w.heap.size + 1) ca cn cc 0) := ⟨0, by have := heap_alloc_new (w.alloc (.cells #[.int .i64 0, .slice none 0 0] 39)) (.cells #[.slice ca cn cc, .int .i64 0, .int .u64 0] 75); simpa using this⟩
  have HRES : Hid (((w.alloc (.cells #[.int .i64 0, .slice none 0 0] 39)).alloc (.cells #[.slice ca cn cc, .int .i64 0, .int .u64 0] 75)).heap[w.heap.size]? = some (.cells #[.int .i64 0, .slice none 0 0] 39 (0, 0))) := by
    show ((w.alloc _).alloc _).heap[w.heap.size]? = _
    rw [hA2.block _ (by simp)]; exact heap_alloc_new _ _
  have HSZ : Hid (((w.alloc (.cells #[.int .i64 0, .slice none 0 0] 39)).alloc (.cells #[.slice ca cn cc, .int .i64 0, .int .u64 0] 75)).heap.size = w.heap.size + 2) := by show _ = _; simp
  clear hr hA hA2
  go_enter Try.func17, Try.ntmps17
  go_wp2_with fail
  generalize (w.alloc (.cells #[.int .i64 0, .slice none 0 0] 39)).alloc (.cells #[.slice ca cn cc, .int .i64 0, .int .u64 0] 75) = w2 at HB HR HC HRES HSZ ⊢
  generalize hbb : w.heap.size + 1 = bc at HAP HC HSZ ⊢
  refine (walked_draw bc ca cn cc 0 bs _ HC.out HR.out HAP.out (by omega) hn).mono ?_
  rintro e v1 ⟨pl, ua, k, uc, L, a, n, c, xs, p1, rfl, hpl, hk, hsz, hn60, hp1, hstab, hcur, hby, hkp⟩
  have hA := below_al v1 (.cells #[.int .i64 pl, .slice ua k uc] 39)
  have hz2 := HSZ.out
  have hz1 := hkp.size
  have hbl := hcur.lt
  obtain ⟨B, hB⟩ : ∃ B, B = w2.heap.size := ⟨_, rfl⟩
  have S1 : Hid (DrSt w (v1.alloc (.cells #[.int .i64 pl, .slice ua k uc] 39)) B v1.heap.size bc w.heap.size v1.heap.size ca cn cc p1 bs pl ua k uc L a n xs) :=
    ⟨(hA.block _ (by omega)).trans ((hkp.block _ (by omega) (by omega)).trans HRES.out), heap_alloc_new v1 _,
      fun W' h1 h2 => hstab W' h1 fun q hq1 hq2 => (h2 q (by omega) hq2).trans (hA.block q hq2), hA.size, hcur.below hA hbl, hby.kept (Kept.of_below (bc := bc) hA) HAP.out,
      (HB.out.trans ((hkp.mono HB.out.size).below (by omega))).trans (hA.mono (by omega))⟩
  have hbB : bc < B := by omega
  have hRb : w.heap.size ≠ bc := by omega
  have hVb : v1.heap.size ≠ bc := by omega
  have hwb : w.heap.size ≤ bc := by omega
  have hRB : w.heap.size < B := by omega
  have hVR : v1.heap.size ≠ w.heap.size := by omega
  clear HB HR HC HRES HSZ hstab hcur hby hkp hA hz2 hz1 hbl hB hbb
  go_wp2_with fail
  generalize v1.alloc (.cells #[.int .i64 pl, .slice ua k uc] 39) = W3 at S1 ⊢
  generalize v1.heap.size = V at *
  have S2 := hide (S1.out.go (Kept.of_below (bc := bc) (Below.refl _ W3).drew) (S1.out.cur.below (Below.refl _ W3).drew S1.out.cur.lt) hbB hRb hVb hwb HAP.out)
  clear S1
  refine wp_region_held_drew (S := (fun W : World => W.heap[V]? = some (.cells #[.int .i64 pl, .slice ua k uc] 39 (0, 0)))) (by kernel_rfl) S2.out.box (fun hHeld => ?_)
  have hSv : (fun W : World => W.heap[V]? = some (.cells #[.int .i64 pl, .slice ua k uc] 39 (0, 0))) W3.drew := S2.out.box
  clear hHeld
  generalize W3.drew = vd at *
  refine take_yes (i := 0) (some 16) (.agg #[.int .i64 pl, .slice ua k uc]) rfl rfl (by kernel_rfl) (by kernel_rfl) (by kernel_rfl) (fun _ _ _ h => h) (by rfl) ?_ (by assumption) ?_
  · intro W' hSw
    exact exec_load_rowW 39 _ rfl _ rfl 39 _ _ _ hSw Try.underlying39 rfl Try.size39w
  simp only [Act.put, List.setIfInBounds_toArray, List.set_cons_zero, List.set_cons_succ]
  refine take_yes (i := 1) (some 17) (.slice a n c) rfl rfl (by kernel_rfl) (by kernel_rfl) (by kernel_rfl) (fun _ _ _ h => h) (by rfl) ?_ (by assumption) ?_
  · intro W' hSw
    go_simp
  simp only [Act.put, List.setIfInBounds_toArray, List.set_cons_zero, List.set_cons_succ]
  refine take_yes (i := 2) (some 18) (.pointer (some ⟨bc, 0, none⟩)) rfl rfl (by kernel_rfl) (by kernel_rfl) (by kernel_rfl) (fun _ _ _ h => h) (by rfl) ?_ (by assumption) ?_
  · intro W' hSw
    go_simp
  simp only [Act.put, List.setIfInBounds_toArray, List.set_cons_zero, List.set_cons_succ]
  refine call_next (i := 3) (some 19) rfl rfl (by kernel_rfl) (by rfl) 67 _ _ _ rfl Try.func67 (by decide) rfl #[.pointer (some ⟨bc, 0, none⟩)] (mapw1 _ _ _ rfl) _ (budget_draw bc ca cn cc p1 bs _ S2.out.cur S2.out.byt HAP.out (by omega) hn) ?_
  rintro e v3 ⟨bg, rfl, hbg, hcur, hkp⟩
  have S3 := hide (S2.out.go hkp hcur hbB hRb hVb hwb HAP.out)
  clear S2 hSv hcur hkp
  refine ⟨_, rfl, S3.out.box, fun hSv => ?_⟩
  simp only [Act.put, List.setIfInBounds_toArray, List.set_cons_zero, List.set_cons_succ]
  have hg0 := S3.out.res
  have hnone : (#[.int .i64 pl, .slice ua k uc] : Array Value).all (·.oneCell') = true := by simp [Value.oneCell']
  have hS5 : (fun W : World => W.heap[V]? = some (.cells #[.int .i64 pl, .slice ua k uc] 39 (0, 0))) (v3.setRow w.heap.size #[.int .i64 pl, .slice ua k uc]) := (setRow_otherW _ hVR _).trans S3.out.box
  obtain ⟨hfl, hfb⟩ := S3.out.done (Nat.le_refl _) hRB #[.int .i64 pl, .slice ua k uc]
  have HE : Hid (XpDr w (.returned (.tuple #[.agg #[.int .i64 pl, .slice ua k uc], .slice a n c, .int .i64 bg])) (v3.setRow w.heap.size #[.int .i64 pl, .slice ua k uc])) := ⟨pl, ua, k, uc, L, a, n, c, xs, bg, rfl, hpl, hk, hsz, hn60, hfl, hfb, hbg⟩
  have hz5 := setRow_sameW hg0 #[.int .i64 pl, .slice ua k uc]
  have hy0 := cell_of_row _ w.heap.size 0 _ _ _ hz5
  have hy1 := cell_of_row _ w.heap.size 1 _ _ _ hz5
  simp at hy0 hy1
  clear hfl hfb hSv
  refine store_next (i := 4) rfl rfl (by kernel_rfl) (by rfl) 39 _ _ rfl w.heap.size #[.int .i64 pl, .slice ua k uc] rfl rfl 39 _ hg0 Try.size39w rfl hnone hS5 (fun _ => ?_)
  refine take_yes (i := 5) (some 3) (.slice a n c) rfl rfl (by kernel_rfl) (by kernel_rfl) (by kernel_rfl) (fun _ _ _ h => h) (by rfl) ?_ (by assumption) ?_
  · intro W' hSw
    go_simp
  simp only [Act.put, List.setIfInBounds_toArray, List.set_cons_zero, List.set_cons_succ]
  refine take_yes (i := 6) (some 4) (.int .i64 bg) rfl rfl (by kernel_rfl) (by kernel_rfl) (by kernel_rfl) (fun _ _ _ h => h) (by rfl) ?_ (by assumption) ?_
  · intro W' hSw
    go_simp
  simp only [Act.put, List.setIfInBounds_toArray, List.set_cons_zero, List.set_cons_succ]
  refine wpAnyH_done (by kernel_rfl) ?_ _
  go_wp2_with fail
  refine bodyPost_ret (v := .tuple #[.agg #[.int .i64 pl, .slice ua k uc], .slice a n c, .int .i64 bg]) (by simp [results, Try.results17, go_sem, hy0, hy1]) rfl ?_
  exact HE.out

set_option maxHeartbeats 1000000 in
theorem drawLv_any (ca : Option Addr) (cn cc : Nat) (bs : List Int) (w : World) (hr : RowB w ca cn bs) (hn : cn ≤ 1048576) :
    Calls Try.prog 29 #[.slice ca cn cc] w fun e w' => XpDr w e w' := by
  have hA := below_al w (.cells #[.int .i64 0, .slice none 0 0] 39)
  have HB := hide hA
  have HR := hide (hr.below hA)
  have HRES := hide (heap_alloc_new w (.cells #[.int .i64 0, .slice none 0 0] 39))
  clear hr hA
  go_enter Try.func29, Try.ntmps29
  go_wp2_with fail
  refine (drawXp_any ca cn cc bs _ HR.out hn).mono ?_
  rintro e v1 ⟨pl, ua, k, uc, L, a, n, c, xs, bg, rfl, hpl, hk, hsz, hn60, hl, hb, hbg⟩
  have hz := HB.out.size
  have HR1 := hide ((hb.block _ (row_lt HRES.out)).trans HRES.out)
  have hr0 := cell_of_row v1 w.heap.size 0 _ _ _ HR1.out
  have hr1 := cell_of_row v1 w.heap.size 1 _ _ _ HR1.out
  have hf0 := frozen_of_row v1 w.heap.size 0 _ _ HR1.out
  have hf1 := frozen_of_row v1 w.heap.size 1 _ _ HR1.out
  simp at hr0 hr1
  have far : ∀ q, q ≠ w.heap.size → ((v1.setCell ⟨w.heap.size, 0, none⟩ (.int .i64 pl)).setCell ⟨w.heap.size, 1, none⟩ (.slice ua k uc)).heap[q]? = v1.heap[q]? := fun q hq => set2V_far (v := v1) hq (.int .i64 pl) (.slice ua k uc)
  obtain ⟨y0, y1⟩ := cells2 (set2V HR1.out (.int .i64 pl) (.slice ua k uc))
  have HL := hide hl
  have HB1 := hide hb
  clear hl hb HR
  go_wp2_with fail
  refine bodyPost_ret (v := .tuple #[.agg #[.int .i64 pl, .slice ua k uc], .slice a n c, .int .i64 bg]) (by simp [results, Try.results29, go_sem, y0, y1]) rfl ?_
  have hz2 : ((v1.setCell ⟨w.heap.size, 0, none⟩ (.int .i64 pl)).setCell ⟨w.heap.size, 1, none⟩ (.slice ua k uc)).heap.size = v1.heap.size := by simp only [sizeV]
  have hz3 : (w.alloc (.cells #[.int .i64 0, .slice none 0 0] 39)).heap.size = w.heap.size + 1 := by simp
  refine ⟨pl, ua, k, uc, L, a, n, c, xs, bg, rfl, hpl, hk, hsz, hn60, fun W' h1 h2 => HL.out W' (by omega) fun q hq1 hq2 => (h2 q (by omega) (by omega)).trans (far q (by omega)), ?_, hbg⟩
  have hq := HB.out.trans (HB1.out.mono hz)
  exact ⟨hq.os, hq.tape, hq.output, by rw [hz2]; exact hq.size, fun q hq1 => (far q (by omega)).trans (hq.block q hq1)⟩

def BoDr (w : World) (e : Ending) (w' : World) : Prop :=
  ∃ (pl : Int) (ua : Option Addr) (k uc : Nat) (L : List (List Int)) (a : Option Addr) (n c : Nat) (xs : List Int) (bg t : Int), e = .returned (.tuple #[.agg #[.int .i64 pl, .slice ua k uc], .slice a n c, .int .i64 bg, .int .i64 t]) ∧ (0 ≤ pl ∧ pl ≤ 60) ∧ k ≤ 61 ∧ sizeN k L ≤ 6400 ∧ n ≤ 60 ∧ Stab w.heap.size w' ua k L a n xs ∧ Below w.heap.size w w' ∧ (0 ≤ bg ∧ bg ≤ 401) ∧ (-1 ≤ t ∧ t ≤ 5)

set_option maxHeartbeats 2000000 in
theorem drawBo_any (ca : Option Addr) (cn cc : Nat) (bs : List Int) (w : World) (hr : RowB w ca cn bs) (hn : cn ≤ 1048576) :
    Calls Try.prog 36 #[.slice ca cn cc] w fun e w' => BoDr w e w' := by
  have hA := below_al w (.cells #[.int .i64 0, .slice none 0 0] 39)
  have hA2 := below_al (w.alloc (.cells #[.int .i64 0, .slice none 0 0] 39)) (.cells #[.slice ca cn cc, .int .i64 0, .int .u64 0] 75)
  have HB := hide (hA.trans (hA2.mono hA.size))
  have HR := hide (hr.below HB.out)
  have HAP : Hid (Apart ca cn (w.heap.size + 1)) := fun h0 y hy => by have := hr.far h0 y hy; omega
  have HC : Hid (Cur ((w.alloc (.cells #[.int .i64 0, .slice none 0 0] 39)).alloc (.cells #[.slice ca cn cc, .int .i64 0, .int .u64 0] 75)) (w.heap.size + 1) ca cn cc 0) := ⟨0, by have := heap_alloc_new (w.alloc (.cells #[.int .i64 0, .slice none 0 0] 39)) (.cells #[.slice ca cn cc, .int .i64 0, .int .u64 0] 75); simpa using this⟩
  have HRES : Hid (((w.alloc (.cells #[.int .i64 0, .slice none 0 0] 39)).alloc (.cells #[.slice ca cn cc, .int .i64 0, .int .u64 0] 75)).heap[w.heap.size]? = some (.cells #[.int .i64 0, .slice none 0 0] 39 (0, 0))) := by
    show ((w.alloc _).alloc _).heap[w.heap.size]? = _
    rw [hA2.block _ (by simp)]; exact heap_alloc_new _ _
  have HSZ : Hid (((w.alloc (.cells #[.int .i64 0, .slice none 0 0] 39)).alloc (.cells #[.slice ca cn cc, .int .i64 0, .int .u64 0] 75)).heap.size = w.heap.size + 2) := by show _ = _; simp
  clear hr hA hA2
  go_enter Try.func36, Try.ntmps36
  go_wp2_with fail
  generalize (w.alloc (.cells #[.int .i64 0, .slice none 0 0] 39)).alloc (.cells #[.slice ca cn cc, .int .i64 0, .int .u64 0] 75) = w2 at HB HR HC HRES HSZ ⊢
  generalize hbb : w.heap.size + 1 = bc at HAP HC HSZ ⊢
  refine (walked_draw bc ca cn cc 0 bs _ HC.out HR.out HAP.out (by omega) hn).mono ?_
  rintro e v1 ⟨pl, ua, k, uc, L, a, n, c, xs, p1, rfl, hpl, hk, hsz, hn60, hp1, hstab, hcur, hby, hkp⟩
  have hA := below_al v1 (.cells #[.int .i64 pl, .slice ua k uc] 39)
  have hz2 := HSZ.out
  have hz1 := hkp.size
  have hbl := hcur.lt
  obtain ⟨B, hB⟩ : ∃ B, B = w2.heap.size := ⟨_, rfl⟩
  have S1 : Hid (DrSt w (v1.alloc (.cells #[.int .i64 pl, .slice ua k uc] 39)) B v1.heap.size bc w.heap.size v1.heap.size ca cn cc p1 bs pl ua k uc L a n xs) :=
    ⟨(hA.block _ (by omega)).trans ((hkp.block _ (by omega) (by omega)).trans HRES.out), heap_alloc_new v1 _,
      fun W' h1 h2 => hstab W' h1 fun q hq1 hq2 => (h2 q (by omega) hq2).trans (hA.block q hq2), hA.size, hcur.below hA hbl, hby.kept (Kept.of_below (bc := bc) hA) HAP.out,
      (HB.out.trans ((hkp.mono HB.out.size).below (by omega))).trans (hA.mono (by omega))⟩
  have hbB : bc < B := by omega
  have hRb : w.heap.size ≠ bc := by omega
  have hVb : v1.heap.size ≠ bc := by omega
  have hwb : w.heap.size ≤ bc := by omega
  have hRB : w.heap.size < B := by omega
  have hVR : v1.heap.size ≠ w.heap.size := by omega
  clear HB HR HC HRES HSZ hstab hcur hby hkp hA hz2 hz1 hbl hB hbb
  go_wp2_with fail
  generalize v1.alloc (.cells #[.int .i64 pl, .slice ua k uc] 39) = W3 at S1 ⊢
  generalize v1.heap.size = V at *
  refine (budget_draw bc ca cn cc p1 bs _ S1.out.cur S1.out.byt HAP.out (by omega) hn).mono ?_
  rintro e vb ⟨bg, rfl, hbg, hcur, hkp⟩
  have S1b := hide (S1.out.go hkp hcur hbB hRb hVb hwb HAP.out)
  clear S1 hcur hkp
  go_wp2_with fail
  have S2 := hide (S1b.out.go (Kept.of_below (bc := bc) (Below.refl _ vb).drew) (S1b.out.cur.below (Below.refl _ vb).drew S1b.out.cur.lt) hbB hRb hVb hwb HAP.out)
  clear S1b
  refine wp_region_held_drew (S := (fun W : World => W.heap[V]? = some (.cells #[.int .i64 pl, .slice ua k uc] 39 (0, 0)))) (by kernel_rfl) S2.out.box (fun hHeld => ?_)
  have hSv : (fun W : World => W.heap[V]? = some (.cells #[.int .i64 pl, .slice ua k uc] 39 (0, 0))) vb.drew := S2.out.box
  clear hHeld
  generalize vb.drew = vd at *
  refine take_yes (i := 0) (some 20) (.agg #[.int .i64 pl, .slice ua k uc]) rfl rfl (by kernel_rfl) (by kernel_rfl) (by kernel_rfl) (fun _ _ _ h => h) (by rfl) ?_ (by assumption) ?_
  · intro W' hSw
    exact exec_load_rowW 39 _ rfl _ rfl 39 _ _ _ hSw Try.underlying39 rfl Try.size39w
  simp only [Act.put, List.setIfInBounds_toArray, List.set_cons_zero, List.set_cons_succ]
  refine take_yes (i := 1) (some 21) (.slice a n c) rfl rfl (by kernel_rfl) (by kernel_rfl) (by kernel_rfl) (fun _ _ _ h => h) (by rfl) ?_ (by assumption) ?_
  · intro W' hSw
    go_simp
  simp only [Act.put, List.setIfInBounds_toArray, List.set_cons_zero, List.set_cons_succ]
  refine take_yes (i := 2) (some 22) (.int .i64 bg) rfl rfl (by kernel_rfl) (by kernel_rfl) (by kernel_rfl) (fun _ _ _ h => h) (by rfl) ?_ (by assumption) ?_
  · intro W' hSw
    go_simp
  simp only [Act.put, List.setIfInBounds_toArray, List.set_cons_zero, List.set_cons_succ]
  refine take_yes (i := 3) (some 23) (.pointer (some ⟨bc, 0, none⟩)) rfl rfl (by kernel_rfl) (by kernel_rfl) (by kernel_rfl) (fun _ _ _ h => h) (by rfl) ?_ (by assumption) ?_
  · intro W' hSw
    go_simp
  simp only [Act.put, List.setIfInBounds_toArray, List.set_cons_zero, List.set_cons_succ]
  refine take_yes (i := 5) (some 25) (.pointer (some ⟨bc, 0, none⟩)) rfl rfl (by kernel_rfl) (by kernel_rfl) (by kernel_rfl) (fun _ _ _ h => h) (by rfl) ?_ (by assumption) ?_
  · intro W' hSw
    go_simp
  simp only [Act.put, List.setIfInBounds_toArray, List.set_cons_zero, List.set_cons_succ]
  refine call_next (i := 4) (some 24) rfl rfl (by kernel_rfl) (by rfl) 51 _ _ _ rfl Try.func51 (by decide) rfl #[.pointer (some ⟨bc, 0, none⟩), .int .i64 6] (mapw2 _ _ _ _ _ rfl rfl) _ (pick_any 6 bc ca cn cc (p1 + 1) bs _ S2.out.cur S2.out.byt (by omega) hn (by omega) (by omega)) ?_
  rintro e v3 ⟨r, rfl, hr, hcur, hkp⟩
  have S3 := hide (S2.out.go (Kept.of_only hkp) hcur hbB hRb hVb hwb HAP.out)
  clear S2 hSv hcur hkp
  refine ⟨_, rfl, S3.out.box, fun hSv => ?_⟩
  simp only [Act.put, List.setIfInBounds_toArray, List.set_cons_zero, List.set_cons_succ]
  refine call_next (i := 6) (some 26) rfl rfl (by kernel_rfl) (by rfl) 51 _ _ _ rfl Try.func51 (by decide) rfl #[.pointer (some ⟨bc, 0, none⟩), .int .i64 12] (mapw2 _ _ _ _ _ rfl rfl) _ (pick_any 12 bc ca cn cc (p1 + 1 + 1) bs _ S3.out.cur S3.out.byt (by omega) hn (by omega) (by omega)) ?_
  rintro e v4 ⟨r2, rfl, hr2, hcur, hkp⟩
  have S4 := hide (S3.out.go (Kept.of_only hkp) hcur hbB hRb hVb hwb HAP.out)
  clear S3 hSv hcur hkp
  refine ⟨_, rfl, S4.out.box, fun hSv => ?_⟩
  simp only [Act.put, List.setIfInBounds_toArray, List.set_cons_zero, List.set_cons_succ]
  refine take_yes (i := 7) (some 27) (.int .i64 (IntKind.i64.wrap ((r2 : Int) / 11))) rfl rfl (by kernel_rfl) (by kernel_rfl) (by kernel_rfl) (fun _ _ _ h => h) (by rfl) ?_ (by assumption) ?_
  · intro W' hSw
    go_simp
  simp only [Act.put, List.setIfInBounds_toArray, List.set_cons_zero, List.set_cons_succ]
  refine take_yes (i := 8) (some 28) (.int .i64 (IntKind.i64.wrap ((r : Int) - IntKind.i64.wrap ((r2 : Int) / 11)))) rfl rfl (by kernel_rfl) (by kernel_rfl) (by kernel_rfl) (fun _ _ _ h => h) (by rfl) ?_ (by assumption) ?_
  · intro W' hSw
    go_simp
  simp only [Act.put, List.setIfInBounds_toArray, List.set_cons_zero, List.set_cons_succ]
  have hg0 := S4.out.res
  have hnone : (#[.int .i64 pl, .slice ua k uc] : Array Value).all (·.oneCell') = true := by simp [Value.oneCell']
  have hS5 : (fun W : World => W.heap[V]? = some (.cells #[.int .i64 pl, .slice ua k uc] 39 (0, 0))) (v4.setRow w.heap.size #[.int .i64 pl, .slice ua k uc]) := (setRow_otherW _ hVR _).trans S4.out.box
  obtain ⟨hfl, hfb⟩ := S4.out.done (Nat.le_refl _) hRB #[.int .i64 pl, .slice ua k uc]
  have HE : Hid (BoDr w (.returned (.tuple #[.agg #[.int .i64 pl, .slice ua k uc], .slice a n c, .int .i64 bg, .int .i64 (IntKind.i64.wrap ((r : Int) - IntKind.i64.wrap ((r2 : Int) / 11)))])) (v4.setRow w.heap.size #[.int .i64 pl, .slice ua k uc])) := ⟨pl, ua, k, uc, L, a, n, c, xs, bg, _, rfl, hpl, hk, hsz, hn60, hfl, hfb, hbg, by rw [step_num r r2 hr hr2]; omega⟩
  have hz5 := setRow_sameW hg0 #[.int .i64 pl, .slice ua k uc]
  have hy0 := cell_of_row _ w.heap.size 0 _ _ _ hz5
  have hy1 := cell_of_row _ w.heap.size 1 _ _ _ hz5
  simp at hy0 hy1
  clear hfl hfb hSv
  refine store_next (i := 9) rfl rfl (by kernel_rfl) (by rfl) 39 _ _ rfl w.heap.size #[.int .i64 pl, .slice ua k uc] rfl rfl 39 _ hg0 Try.size39w rfl hnone hS5 (fun _ => ?_)
  refine take_yes (i := 10) (some 3) (.slice a n c) rfl rfl (by kernel_rfl) (by kernel_rfl) (by kernel_rfl) (fun _ _ _ h => h) (by rfl) ?_ (by assumption) ?_
  · intro W' hSw
    go_simp
  simp only [Act.put, List.setIfInBounds_toArray, List.set_cons_zero, List.set_cons_succ]
  refine take_yes (i := 11) (some 4) (.int .i64 bg) rfl rfl (by kernel_rfl) (by kernel_rfl) (by kernel_rfl) (fun _ _ _ h => h) (by rfl) ?_ (by assumption) ?_
  · intro W' hSw
    go_simp
  simp only [Act.put, List.setIfInBounds_toArray, List.set_cons_zero, List.set_cons_succ]
  refine take_yes (i := 12) (some 5) (.int .i64 (IntKind.i64.wrap ((r : Int) - IntKind.i64.wrap ((r2 : Int) / 11)))) rfl rfl (by kernel_rfl) (by kernel_rfl) (by kernel_rfl) (fun _ _ _ h => h) (by rfl) ?_ (by assumption) ?_
  · intro W' hSw
    go_simp
  simp only [Act.put, List.setIfInBounds_toArray, List.set_cons_zero, List.set_cons_succ]
  refine wpAnyH_done (by kernel_rfl) ?_ _
  go_wp2_with fail
  refine bodyPost_ret (v := .tuple #[.agg #[.int .i64 pl, .slice ua k uc], .slice a n c, .int .i64 bg, .int .i64 (IntKind.i64.wrap ((r : Int) - IntKind.i64.wrap ((r2 : Int) / 11)))]) (by simp [results, Try.results36, go_sem, hy0, hy1]) rfl ?_
  exact HE.out
end Go.Proofs.Ytegabkegbhglfaa


/- The program's before and overfull. -/
namespace Go.Proofs.Ytegabkegbhglfaa
open Go.RowKit
set_option maxRecDepth 10000

/-- How before ends. -/
def BfEnd (s0 s1 s2 : Nat) (f : Nat → Int) (w : World) (e : Ending) (w' : World) : Prop :=
  ∃ h, e = .returned (.tuple #[.agg (tokF h), .bool (bkOk s1 s2 f 16)]) ∧ Hid (bkOk s1 s2 f 16 = true → h = bkP s0 s1 f 16) ∧ Below w.heap.size w w'

theorem bfEnd_no {s0 s1 s2 : Nat} {f : Nat → Int} {w w' : World} (h : bkOk s1 s2 f 16 = false) (hb : Below w.heap.size w w') : BfEnd s0 s1 s2 f w (.returned (.tuple #[.agg #[.int .u8 0, .int .u8 0, .int .u8 0, .int .u8 0, .int .u8 0, .int .u8 0, .int .u8 0, .int .u8 0, .int .u8 0, .int .u8 0, .int .u8 0, .int .u8 0, .int .u8 0, .int .u8 0, .int .u8 0, .int .u8 0], .bool false])) w' :=
  ⟨fun _ => 0, by rw [h, zeros_tok], by rw [h]; intro e; simp at e, hb⟩

theorem bfEnd_yes {s0 s1 s2 : Nat} {f : Nat → Int} {w w' : World} (h : bkOk s1 s2 f 16 = true) (hb : Below w.heap.size w w') : BfEnd s0 s1 s2 f w (.returned (.tuple #[.agg (tokF (bkP s0 s1 f 16)), .bool true])) w' :=
  ⟨_, by rw [h], fun _ => rfl, hb⟩

/-- What the loop of before keeps in mind. -/
structure BfInv (w wr : World) (s0 s1 s2 : Nat) (g : Nat → Int) : Prop where
  st : wr.heap[w.heap.size]? = some (.cells #[.int .u16 (s0 : Int), .int .u16 (s1 : Int), .int .u16 (s2 : Int)] 121 (0, 0))
  tk : wr.heap[w.heap.size + 1]? = some (.cells (tokF g) 82 (0, 0))
  rs : wr.heap[w.heap.size + 1 + 1]? = some (.cells #[.int .u8 0, .int .u8 0, .int .u8 0, .int .u8 0, .int .u8 0, .int .u8 0, .int .u8 0, .int .u8 0, .int .u8 0, .int .u8 0, .int .u8 0, .int .u8 0, .int .u8 0, .int .u8 0, .int .u8 0, .int .u8 0] 82 (0, 0))
  bel : Below w.heap.size w wr

theorem BfInv.set {w wr : World} {s0 s1 s2 : Nat} {f : Nat → Int} {k : Nat} {v : Int} (h : BfInv w wr s0 s1 s2 (bkM s0 s1 f k v)) (v' : Int) : BfInv w (wr.setCell ⟨w.heap.size + 1, k, none⟩ (.int .u8 v')) s0 s1 s2 (bkM s0 s1 f k v') :=
  ⟨(Below.heap_setCell _ _ _ _ (show w.heap.size ≠ w.heap.size + 1 by omega)).trans h.st, by rw [heap_setCell_same _ _ _ _ _ _ h.tk, bkM_set], (Below.heap_setCell _ _ _ _ (show w.heap.size + 1 + 1 ≠ w.heap.size + 1 by omega)).trans h.rs, h.bel.setCell (by simp) _⟩

theorem BfInv.start (w : World) (s0 s1 s2 : Nat) (f : Nat → Int) : BfInv w (((w.alloc (.cells #[.int .u16 (s0 : Int), .int .u16 (s1 : Int), .int .u16 (s2 : Int)] 121)).alloc (.cells (tokF f) 82)).alloc (.cells #[.int .u8 0, .int .u8 0, .int .u8 0, .int .u8 0, .int .u8 0, .int .u8 0, .int .u8 0, .int .u8 0, .int .u8 0, .int .u8 0, .int .u8 0, .int .u8 0, .int .u8 0, .int .u8 0, .int .u8 0, .int .u8 0] 82)) s0 s1 s2 f := by
  refine ⟨?_, ?_, ?_, ((below_al w _).alloc (by simp) _).alloc (by simp; omega) _⟩
  · rw [heap_al_old _ _ _ (by simp; omega), heap_al_old _ _ _ (by simp)]; exact heap_alloc_new _ _
  · rw [heap_al_old _ _ _ (by simp)]
    have := heap_alloc_new (w.alloc (.cells #[.int .u16 (s0 : Int), .int .u16 (s1 : Int), .int .u16 (s2 : Int)] 121)) (.cells (tokF f) 82)
    simpa using this
  · have := heap_alloc_new ((w.alloc (.cells #[.int .u16 (s0 : Int), .int .u16 (s1 : Int), .int .u16 (s2 : Int)] 121)).alloc (.cells (tokF f) 82)) (.cells #[.int .u8 0, .int .u8 0, .int .u8 0, .int .u8 0, .int .u8 0, .int .u8 0, .int .u8 0, .int .u8 0, .int .u8 0, .int .u8 0, .int .u8 0, .int .u8 0, .int .u8 0, .int .u8 0, .int .u8 0, .int .u8 0] 82)
    simpa using this

set_option maxHeartbeats 1000000 in
theorem beforeI_any (s0 s1 s2 : Nat) (f : Nat → Int) (w : World) (h0 : s0 < 2 ^ 16) (h1 : s1 < 2 ^ 16) (h2 : s2 < 2 ^ 16) (hf : ∀ i, 0 ≤ f i ∧ f i ≤ 50) :
    Calls Try.prog 99 #[.agg #[.int .u16 (s0 : Int), .int .u16 (s1 : Int), .int .u16 (s2 : Int)], .agg (tokF f)] w fun e w' => BfEnd s0 s1 s2 f w e w' := by
  have HF := hide hf
  have HI := hide (BfInv.start w s0 s1 s2 f)
  clear hf
  go_enter Try.func99, Try.ntmps99
  have hg1 := HI.out.tk
  go_wp2_with ((show wpList _ _ _ (⟨some 8, .load 82 (.tmp 3), _, _, _, _⟩ :: _) _ _); refine wpList_load_row rfl 82 (.tmp 3) rfl _ rfl 82 (tokF f) (0, 0) _ hg1 Try.underlying82 rfl (by rw [tokF_size]; exact Try.size82) ?_)
  clear hg1
  generalize ((w.alloc (.cells #[.int .u16 (s0 : Int), .int .u16 (s1 : Int), .int .u16 (s2 : Int)] 121)).alloc (.cells (tokF f) 82)).alloc (.cells #[.int .u8 0, .int .u8 0, .int .u8 0, .int .u8 0, .int .u8 0, .int .u8 0, .int .u8 0, .int .u8 0, .int .u8 0, .int .u8 0, .int .u8 0, .int .u8 0, .int .u8 0, .int .u8 0, .int .u8 0, .int .u8 0] 82) = W0 at *
  go_loopw [9] (fun i wr => ∃ k : Nat, k ≤ 16 ∧ i = .int .i64 k ∧ Hid (bkOk s1 s2 f k = true) ∧ Hid (BfInv w wr s0 s1 s2 (bkP s0 s1 f k))) (fun i _ => 16 - (intOf i).toNat)
  case atStart => exact ⟨0, Nat.zero_le _, rfl, rfl, by rw [bkP_zero]; exact HI⟩
  case round =>
    obtain ⟨k, hk, rfl, hu, hin⟩ := hrel
    clear HI
    by_cases hlt : k < 16
    rotate_left
    · have hk' : k = 16 := by omega
      subst hk'
      have hg1 := hin.out.tk
      have hg2 := hin.out.rs
      go_wp2_with (first
        | ((show wpList _ _ _ (⟨some 47, .load 82 (.tmp 3), _, _, _, _⟩ :: _) _ _); refine wpList_load_row rfl 82 (.tmp 3) rfl _ rfl 82 (tokF (bkP s0 s1 f 16)) (0, 0) _ hg1 Try.underlying82 rfl (by rw [tokF_size]; exact Try.size82) ?_)
        | ((show wpList _ _ _ (⟨none, .store 82 (.tmp 4) (.tmp 47), _, _, _, _⟩ :: _) _ _); refine wpList_store_row rfl 82 (.tmp 4) _ rfl _ _ rfl rfl 82 _ hg2 (by rw [tokF_size]; exact Try.size82) (by rw [tokF_size]; rfl) (tokF_one _) ?_))
      refine bodyPost_ret (v := .tuple #[.agg (tokF (bkP s0 s1 f 16)), .bool true]) ?_ rfl (bfEnd_yes hu.out (below_setRow hin.out.bel _ (by omega) _))
      exact after_res Try.results99 _ _ (w.heap.size + 1 + 1) _ (.bool true) rfl rfl (tokF_size _) (setRow_same hg2 _)
    have hx := HF.out k
    have hat : ∀ w, (Instr.index 82 (.agg (tokF f)) (.int .i64 k)).run Try.prog w = .ok (.int .u8 (f k)) w := fun w => run_index_t16 f k hlt w
    have HEND := hide (bkM_end s0 s1 f k)
    have HNO := hide (fun h => bkOk_not (s1 := s1) (s2 := s2) (f := f) hlt h)
    have HYE := hide (fun h => bkOk_succ (s1 := s1) (s2 := s2) (f := f) (k := k) hu.out h)
    have HOU : Hid (outF s1 f k = if s1.testBit k && decide (0 < f k) then f k - 1 else f k) := rfl
    have HBK : Hid (bkF s0 s1 f k = outF s1 f k + (if s0.testBit k then 1 else 0)) := rfl
    rw [bkM_start] at hin
    obtain ⟨x, hxq⟩ : ∃ x, Hid (f k = x) := ⟨_, rfl⟩
    rw [hxq.out] at hx hat HOU hin
    have hi1 : ((k : Int)) < 16 := by omega
    have hi0 : (0 : Int) ≤ (k : Int) := by omega
    have hc0 := cell_of_row wr w.heap.size 0 _ _ _ hin.out.st
    have hc1 := cell_of_row wr w.heap.size 1 _ _ _ hin.out.st
    have hc2 := cell_of_row wr w.heap.size 2 _ _ _ hin.out.st
    simp at hc0 hc1 hc2
    have hct := cell_of_row wr (w.heap.size + 1) k _ _ _ hin.out.tk
    rw [bkM_at s0 s1 f k hlt] at hct
    have hfr := frozen_of_row wr (w.heap.size + 1) k _ _ hin.out.tk
    have hlz := row_lt hin.out.rs
    obtain ⟨hx1, hx2⟩ := hx
    clear HF hk hu hxq
    cases hb1 : s1.testBit k
    ·
      cases hb2 : s2.testBit k
      · cases hb0 : s0.testBit k
        ·
          have HV : Hid (outF s1 f k = x) := by show _ = _; rw [HOU.out, hb1]; simp
          have HU := hide (HYE.out (by rw [hb2]; simp))
          have HY : Hid (bkF s0 s1 f k = x) := by show _ = _; rw [HBK.out, HV.out, hb0]; simp
          have HQ := hide (hin.out)
          rw [show bkM s0 s1 f k (x) = bkP s0 s1 f (k + 1) by rw [← HEND.out, HY.out]] at HQ
          clear hin HEND HNO HYE HOU HBK HV HY
          go_wp2_with (go_at_call 130; refine (hasI_any _ k _ (by assumption) hlt).mono ?_; rintro e w' ⟨rfl, rfl⟩)
          go_roundw
          case rel => exact ⟨k + 1, by omega, by go_num, HU, HQ⟩
          case measure => simp [intOf]; omega
        ·
          have HV : Hid (outF s1 f k = x) := by show _ = _; rw [HOU.out, hb1]; simp
          have HU := hide (HYE.out (by rw [hb2]; simp))
          have HY : Hid (bkF s0 s1 f k = x + 1) := by show _ = _; rw [HBK.out, HV.out, hb0]; simp
          have HQ := hide ((hin.out).set (x + 1))
          rw [show bkM s0 s1 f k (x + 1) = bkP s0 s1 f (k + 1) by rw [← HEND.out, HY.out]] at HQ
          clear hin HEND HNO HYE HOU HBK HV HY
          go_wp2_with (go_at_call 130; refine (hasI_any _ k _ (by assumption) hlt).mono ?_; rintro e w' ⟨rfl, rfl⟩)
          go_roundw
          case rel => exact ⟨k + 1, by omega, by go_num, HU, HQ⟩
          case measure => simp [intOf]; omega
      · by_cases hgv : 0 < x
        ·
          have HV : Hid (outF s1 f k = x) := by show _ = _; rw [HOU.out, hb1]; simp
          have HN := hide (HNO.out (by rw [hb2, HV.out]; simpa using hgv))
          have HQ := hide (hin.out)
          have hg2 := HQ.out.rs
          clear hin HEND HNO HYE HOU HBK HV
          go_wp2_with (first | (go_at_call 130; refine (hasI_any _ k _ (by assumption) hlt).mono ?_; rintro e w' ⟨rfl, rfl⟩) | ((show wpList _ _ _ (⟨none, .store 82 (.tmp 4) (.tmp 36), _, _, _, _⟩ :: _) _ _); refine wpList_store_row rfl 82 (.tmp 4) _ rfl _ _ rfl rfl 82 _ hg2 Try.size82 rfl lit_one ?_))
          refine bodyPost_ret (v := .tuple #[.agg #[.int .u8 0, .int .u8 0, .int .u8 0, .int .u8 0, .int .u8 0, .int .u8 0, .int .u8 0, .int .u8 0, .int .u8 0, .int .u8 0, .int .u8 0, .int .u8 0, .int .u8 0, .int .u8 0, .int .u8 0, .int .u8 0], .bool false]) ?_ rfl (bfEnd_no HN.out (below_setRow HQ.out.bel _ (by omega) _))
          exact after_res Try.results99 _ _ (w.heap.size + 1 + 1) _ (.bool false) rfl rfl rfl (setRow_same hg2 _)
        · cases hb0 : s0.testBit k
          ·
            have HV : Hid (outF s1 f k = x) := by show _ = _; rw [HOU.out, hb1]; simp
            have HU := hide (HYE.out (by rw [hb2, HV.out]; simpa using hgv))
            have HY : Hid (bkF s0 s1 f k = x) := by show _ = _; rw [HBK.out, HV.out, hb0]; simp
            have HQ := hide (hin.out)
            rw [show bkM s0 s1 f k (x) = bkP s0 s1 f (k + 1) by rw [← HEND.out, HY.out]] at HQ
            clear hin HEND HNO HYE HOU HBK HV HY
            go_wp2_with (go_at_call 130; refine (hasI_any _ k _ (by assumption) hlt).mono ?_; rintro e w' ⟨rfl, rfl⟩)
            go_roundw
            case rel => exact ⟨k + 1, by omega, by go_num, HU, HQ⟩
            case measure => simp [intOf]; omega
          ·
            have HV : Hid (outF s1 f k = x) := by show _ = _; rw [HOU.out, hb1]; simp
            have HU := hide (HYE.out (by rw [hb2, HV.out]; simpa using hgv))
            have HY : Hid (bkF s0 s1 f k = x + 1) := by show _ = _; rw [HBK.out, HV.out, hb0]; simp
            have HQ := hide ((hin.out).set (x + 1))
            rw [show bkM s0 s1 f k (x + 1) = bkP s0 s1 f (k + 1) by rw [← HEND.out, HY.out]] at HQ
            clear hin HEND HNO HYE HOU HBK HV HY
            go_wp2_with (go_at_call 130; refine (hasI_any _ k _ (by assumption) hlt).mono ?_; rintro e w' ⟨rfl, rfl⟩)
            go_roundw
            case rel => exact ⟨k + 1, by omega, by go_num, HU, HQ⟩
            case measure => simp [intOf]; omega
    · by_cases hgx : 0 < x
      ·
        cases hb2 : s2.testBit k
        · cases hb0 : s0.testBit k
          ·
            have HV : Hid (outF s1 f k = x - 1) := by show _ = _; rw [HOU.out, hb1]; simp [hgx]
            have HU := hide (HYE.out (by rw [hb2]; simp))
            have HY : Hid (bkF s0 s1 f k = x - 1) := by show _ = _; rw [HBK.out, HV.out, hb0]; simp
            have HQ := hide ((hin.out).set (x - 1))
            rw [show bkM s0 s1 f k (x - 1) = bkP s0 s1 f (k + 1) by rw [← HEND.out, HY.out]] at HQ
            clear hin HEND HNO HYE HOU HBK HV HY
            go_wp2_with (go_at_call 130; refine (hasI_any _ k _ (by assumption) hlt).mono ?_; rintro e w' ⟨rfl, rfl⟩)
            go_roundw
            case rel => exact ⟨k + 1, by omega, by go_num, HU, HQ⟩
            case measure => simp [intOf]; omega
          ·
            have HV : Hid (outF s1 f k = x - 1) := by show _ = _; rw [HOU.out, hb1]; simp [hgx]
            have HU := hide (HYE.out (by rw [hb2]; simp))
            have HY : Hid (bkF s0 s1 f k = x) := by show _ = _; rw [HBK.out, HV.out, hb0]; simp
            have hct2 := cell_of_row _ (w.heap.size + 1) k _ _ _ ((hin.out).set (x - 1)).tk
            rw [bkM_at s0 s1 f k hlt] at hct2
            have HQ := hide (((hin.out).set (x - 1)).set (x))
            rw [show bkM s0 s1 f k (x) = bkP s0 s1 f (k + 1) by rw [← HEND.out, HY.out]] at HQ
            clear hin HEND HNO HYE HOU HBK HV HY
            go_wp2_with (go_at_call 130; refine (hasI_any _ k _ (by assumption) hlt).mono ?_; rintro e w' ⟨rfl, rfl⟩)
            go_roundw
            case rel => exact ⟨k + 1, by omega, by go_num, HU, HQ⟩
            case measure => simp [intOf]; omega
        · by_cases hgv : 0 < x - 1
          ·
            have HV : Hid (outF s1 f k = x - 1) := by show _ = _; rw [HOU.out, hb1]; simp [hgx]
            have HN := hide (HNO.out (by rw [hb2, HV.out]; simpa using hgv))
            have HQ := hide ((hin.out).set (x - 1))
            have hg2 := HQ.out.rs
            have hct2 := cell_of_row _ (w.heap.size + 1) k _ _ _ HQ.out.tk
            rw [bkM_at s0 s1 f k hlt] at hct2
            clear hin HEND HNO HYE HOU HBK HV
            go_wp2_with (first | (go_at_call 130; refine (hasI_any _ k _ (by assumption) hlt).mono ?_; rintro e w' ⟨rfl, rfl⟩) | ((show wpList _ _ _ (⟨none, .store 82 (.tmp 4) (.tmp 36), _, _, _, _⟩ :: _) _ _); refine wpList_store_row rfl 82 (.tmp 4) _ rfl _ _ rfl rfl 82 _ hg2 Try.size82 rfl lit_one ?_))
            refine bodyPost_ret (v := .tuple #[.agg #[.int .u8 0, .int .u8 0, .int .u8 0, .int .u8 0, .int .u8 0, .int .u8 0, .int .u8 0, .int .u8 0, .int .u8 0, .int .u8 0, .int .u8 0, .int .u8 0, .int .u8 0, .int .u8 0, .int .u8 0, .int .u8 0], .bool false]) ?_ rfl (bfEnd_no HN.out (below_setRow HQ.out.bel _ (by omega) _))
            exact after_res Try.results99 _ _ (w.heap.size + 1 + 1) _ (.bool false) rfl rfl rfl (setRow_same hg2 _)
          · cases hb0 : s0.testBit k
            ·
              have HV : Hid (outF s1 f k = x - 1) := by show _ = _; rw [HOU.out, hb1]; simp [hgx]
              have HU := hide (HYE.out (by rw [hb2, HV.out]; simpa using hgv))
              have HY : Hid (bkF s0 s1 f k = x - 1) := by show _ = _; rw [HBK.out, HV.out, hb0]; simp
              have hct2 := cell_of_row _ (w.heap.size + 1) k _ _ _ ((hin.out).set (x - 1)).tk
              rw [bkM_at s0 s1 f k hlt] at hct2
              have HQ := hide ((hin.out).set (x - 1))
              rw [show bkM s0 s1 f k (x - 1) = bkP s0 s1 f (k + 1) by rw [← HEND.out, HY.out]] at HQ
              clear hin HEND HNO HYE HOU HBK HV HY
              go_wp2_with (go_at_call 130; refine (hasI_any _ k _ (by assumption) hlt).mono ?_; rintro e w' ⟨rfl, rfl⟩)
              go_roundw
              case rel => exact ⟨k + 1, by omega, by go_num, HU, HQ⟩
              case measure => simp [intOf]; omega
            ·
              have HV : Hid (outF s1 f k = x - 1) := by show _ = _; rw [HOU.out, hb1]; simp [hgx]
              have HU := hide (HYE.out (by rw [hb2, HV.out]; simpa using hgv))
              have HY : Hid (bkF s0 s1 f k = x) := by show _ = _; rw [HBK.out, HV.out, hb0]; simp
              have hct2 := cell_of_row _ (w.heap.size + 1) k _ _ _ ((hin.out).set (x - 1)).tk
              rw [bkM_at s0 s1 f k hlt] at hct2
              have HQ := hide (((hin.out).set (x - 1)).set (x))
              rw [show bkM s0 s1 f k (x) = bkP s0 s1 f (k + 1) by rw [← HEND.out, HY.out]] at HQ
              clear hin HEND HNO HYE HOU HBK HV HY
              go_wp2_with (go_at_call 130; refine (hasI_any _ k _ (by assumption) hlt).mono ?_; rintro e w' ⟨rfl, rfl⟩)
              go_roundw
              case rel => exact ⟨k + 1, by omega, by go_num, HU, HQ⟩
              case measure => simp [intOf]; omega
      ·
        cases hb2 : s2.testBit k
        · cases hb0 : s0.testBit k
          ·
            have HV : Hid (outF s1 f k = x) := by show _ = _; rw [HOU.out, hb1]; simp [hgx]
            have HU := hide (HYE.out (by rw [hb2]; simp))
            have HY : Hid (bkF s0 s1 f k = x) := by show _ = _; rw [HBK.out, HV.out, hb0]; simp
            have HQ := hide (hin.out)
            rw [show bkM s0 s1 f k (x) = bkP s0 s1 f (k + 1) by rw [← HEND.out, HY.out]] at HQ
            clear hin HEND HNO HYE HOU HBK HV HY
            go_wp2_with (go_at_call 130; refine (hasI_any _ k _ (by assumption) hlt).mono ?_; rintro e w' ⟨rfl, rfl⟩)
            go_roundw
            case rel => exact ⟨k + 1, by omega, by go_num, HU, HQ⟩
            case measure => simp [intOf]; omega
          ·
            have HV : Hid (outF s1 f k = x) := by show _ = _; rw [HOU.out, hb1]; simp [hgx]
            have HU := hide (HYE.out (by rw [hb2]; simp))
            have HY : Hid (bkF s0 s1 f k = x + 1) := by show _ = _; rw [HBK.out, HV.out, hb0]; simp
            have HQ := hide ((hin.out).set (x + 1))
            rw [show bkM s0 s1 f k (x + 1) = bkP s0 s1 f (k + 1) by rw [← HEND.out, HY.out]] at HQ
            clear hin HEND HNO HYE HOU HBK HV HY
            go_wp2_with (go_at_call 130; refine (hasI_any _ k _ (by assumption) hlt).mono ?_; rintro e w' ⟨rfl, rfl⟩)
            go_roundw
            case rel => exact ⟨k + 1, by omega, by go_num, HU, HQ⟩
            case measure => simp [intOf]; omega
        · by_cases hgv : 0 < x
          ·
            exact absurd hgv hgx
          · cases hb0 : s0.testBit k
            ·
              have HV : Hid (outF s1 f k = x) := by show _ = _; rw [HOU.out, hb1]; simp [hgx]
              have HU := hide (HYE.out (by rw [hb2, HV.out]; simpa using hgv))
              have HY : Hid (bkF s0 s1 f k = x) := by show _ = _; rw [HBK.out, HV.out, hb0]; simp
              have HQ := hide (hin.out)
              rw [show bkM s0 s1 f k (x) = bkP s0 s1 f (k + 1) by rw [← HEND.out, HY.out]] at HQ
              clear hin HEND HNO HYE HOU HBK HV HY
              go_wp2_with (go_at_call 130; refine (hasI_any _ k _ (by assumption) hlt).mono ?_; rintro e w' ⟨rfl, rfl⟩)
              go_roundw
              case rel => exact ⟨k + 1, by omega, by go_num, HU, HQ⟩
              case measure => simp [intOf]; omega
            ·
              have HV : Hid (outF s1 f k = x) := by show _ = _; rw [HOU.out, hb1]; simp [hgx]
              have HU := hide (HYE.out (by rw [hb2, HV.out]; simpa using hgv))
              have HY : Hid (bkF s0 s1 f k = x + 1) := by show _ = _; rw [HBK.out, HV.out, hb0]; simp
              have HQ := hide ((hin.out).set (x + 1))
              rw [show bkM s0 s1 f k (x + 1) = bkP s0 s1 f (k + 1) by rw [← HEND.out, HY.out]] at HQ
              clear hin HEND HNO HYE HOU HBK HV HY
              go_wp2_with (go_at_call 130; refine (hasI_any _ k _ (by assumption) hlt).mono ?_; rintro e w' ⟨rfl, rfl⟩)
              go_roundw
              case rel => exact ⟨k + 1, by omega, by go_num, HU, HQ⟩
              case measure => simp [intOf]; omega

/-- Whether some number is beyond the most that a place may have. -/
theorem overI_any (f : Nat → Int) (w : World) (hf : ∀ i, 0 ≤ f i ∧ f i ≤ 51) :
    Calls Try.prog 100 #[.agg (tokF f)] w fun e w' => e = .returned (.bool (overB f 16)) ∧ w' = w.alloc (.cells (tokF f) 82) := by
  have hg0 := heap_alloc_new w (.cells (tokF f) 82)
  go_enter Try.func100, Try.ntmps100
  go_wp2_with (refine wpList_load_row rfl 82 (.tmp 1) rfl _ rfl 82 (tokF f) (0, 0) _ hg0 Try.underlying82 rfl (by rw [tokF_size]; exact Try.size82) ?_)
  clear hg0
  obtain ⟨v, hv⟩ : ∃ v, Hid (w.alloc (.cells (tokF f) 82) = v) := ⟨_, rfl⟩
  rw [hv.out]
  go_loop [6] (fun i => ∃ k : Nat, k ≤ 16 ∧ i = .int .i64 k ∧ Hid (overB f k = false)) (fun i => 16 - (intOf i).toNat)
  case atStart => exact ⟨0, Nat.zero_le _, rfl, rfl⟩
  case round =>
    obtain ⟨k, hk, rfl, hu⟩ := hrel
    by_cases hlt : k < 16
    rotate_left
    · have hk' : k = 16 := by omega
      subst hk'
      have HE := hide hu.out
      go_wp2_with fail
      go_ret
      exact ⟨ret_bool HE.out.symm, hv.out.symm⟩
    have hat : ∀ w, (Instr.index 82 (.agg (tokF f)) (.int .i64 k)).run Try.prog w = .ok (.int .u8 (f k)) w := fun w => run_index_t16 f k hlt w
    have hi1 : ((k : Int)) < 16 := by omega
    have hi0 : (0 : Int) ≤ (k : Int) := by omega
    have hb := hf k
    by_cases hp : 50 < f k
    · have HY := hide (overB_yes hlt hp)
      have hx : f k = 51 := by omega
      rw [hx] at hat
      clear hp hx hb hf hu
      go_wp2_with fail
      go_ret
      exact ⟨ret_bool HY.out.symm, hv.out.symm⟩
    · have HU := hide (overB_succ hu.out hp)
      obtain ⟨x, hx⟩ : ∃ x, Hid (f k = x) := ⟨_, rfl⟩
      rw [hx.out] at hat hb hp
      obtain ⟨hb1, hb2⟩ := hb
      clear hf hu
      go_wp2_with fail
      go_round
      case rel => exact ⟨k + 1, by omega, by go_num, HU⟩
      case measure => simp [intOf]; omega
end Go.Proofs.Ytegabkegbhglfaa


/- The numbers of the transitions of a net that are as asked: the specification's TakersOf and GiversOf. -/
namespace Go.Proofs.Ytegabkegbhglfaa
open Go.RowKit

/-- The numbers below k that are as asked. -/
def numsL (f : Nat → Bool) (k : Nat) : List Int := ((List.range k).filter f).map fun (i : Nat) => (i : Int)

theorem numsL_yes {f : Nat → Bool} {k : Nat} (h : f k = true) : numsL f (k + 1) = numsL f k ++ [(k : Int)] := by simp [numsL, List.range_succ, List.filter_append, h]
theorem numsL_no {f : Nat → Bool} {k : Nat} (h : f k = false) : numsL f (k + 1) = numsL f k := by simp [numsL, List.range_succ, List.filter_append, h]
theorem numsL_len (f : Nat → Bool) (k : Nat) : (numsL f k).length ≤ k := by
  unfold numsL
  rw [List.length_map]
  have := List.length_filter_le f (List.range k)
  rwa [List.length_range] at this

/-- A list that an append has made, handed back alone. -/
def NumsEnd (f : Nat → Bool) (n : Nat) (w : World) (e : Ending) (w' : World) : Prop :=
  ∃ v m, e = .returned v ∧ w'.ownsRow w.heap.size 3 1 v m ((numsL f n).map (Value.int .i64)) ∧ Below w.heap.size w w'

theorem own_below {B : Nat} {w w' : World} {v : Value} {n : Nat} {l : List Value} (hown : w.ownsRow B 3 1 v n l) (hg : w.grownBy w' v.ownBlock) {a : World} {C : Nat} (h : Below C a w) (hC : C ≤ w.heap.size) (hB : C ≤ B) : Below C a w' := by
  refine h.grown hg hC fun k hk => ?_
  rcases hown.2 with ⟨rfl, _⟩ | ⟨g, cap, cur, rfl, hb, _⟩
  · simp [Value.ownBlock] at hk
  · simp [Value.ownBlock] at hk; omega

theorem one_cell (w : World) (v : Value) : ∀ j u, ([v] : List Value)[j]? = some u → (w.alloc (.cells #[v] 3)).cell? ((⟨w.heap.size, 0, none⟩ : Addr).add j) = some u := by
  intro j u hu
  match j, hu with
  | 0, hu =>
    simp at hu; subst hu
    rw [Addr.add_mid]
    exact cell_of_row _ w.heap.size 0 #[v] _ _ (heap_alloc_new _ _)
  | (q + 1), hu => simp at hu

end Go.Proofs.Ytegabkegbhglfaa


/- The specification's TakersOf and GiversOf, for every net and place. -/
namespace Go.Proofs.Ytegabkegbhglfaa
open Go.RowKit

theorem netOkN' {p : Int} {n : Nat} {L : List (List Int)} (h : netOk p n L = true) : n ≤ 24 := by
  unfold netOk at h; simp at h; exact h.1.2
theorem netOkP' {p : Int} {n : Nat} {L : List (List Int)} (h : netOk p n L = true) : 1 ≤ p ∧ p ≤ 16 := by
  unfold netOk at h; simp [inB] at h; omega

def atOk (p : Int) (n : Nat) (L : List (List Int)) (q : Int) : Bool := netOk p n L && inB q 0 (p - 1)
def atR (f : Nat → Bool) (p : Int) (n : Nat) (L : List (List Int)) (q : Int) : List Int := if atOk p n L q then numsL f n else []

/-- A list and a bool; nothing that was there is written. -/
def WEnd (g : Bool) (r : List Int) (w : World) (e : Ending) (w' : World) : Prop := ∃ a n c, e = .returned (.tuple #[.slice a n c, .bool g]) ∧ Row w' a n r ∧ Below w.heap.size w w'

theorem wend_no {f : Nat → Bool} {p : Int} {n : Nat} {L : List (List Int)} {q : Int} {w w' : World} (h : atOk p n L q = false) (hb : Below w.heap.size w w') : WEnd (atOk p n L q) (atR f p n L q) w (.returned (.tuple #[.slice none 0 0, .bool false])) w' := by
  refine ⟨none, 0, 0, by rw [h], ⟨?_, .inl rfl⟩, hb⟩
  unfold atR; rw [h]; rfl

theorem wend_yes {f : Nat → Bool} {p : Int} {n : Nat} {L : List (List Int)} {q : Int} {w w' : World} {a : Option Addr} {m c : Nat} (h : atOk p n L q = true) (hr : Row w' a m (numsL f n)) (hb : Below w.heap.size w w') : WEnd (atOk p n L q) (atR f p n L q) w (.returned (.tuple #[.slice a m c, .bool true])) w' := by
  refine ⟨a, m, c, by rw [h], ?_, hb⟩
  unfold atR; rw [h]; exact hr

/-- .. in a block of its own. -/
def OEnd (g : Bool) (r : List Int) (w : World) (e : Ending) (w' : World) : Prop :=
  ∃ a b n c, e = .returned (.tuple #[.slice a n c, .bool g]) ∧ Ob w' a b n r ∧ w.heap.size ≤ b ∧ Below w.heap.size w w'

theorem own_ob {B : Nat} {w : World} {v : Value} {n : Nat} {l : List Int} (hown : w.ownsRow B 3 1 v n (l.map (Value.int .i64))) : ∃ a b c, v = .slice a n c ∧ B ≤ b ∧ Ob w a b n l := by
  have hl : l.length = n := by have := hown.1; simpa using this
  rcases hown.2 with ⟨rfl, rfl⟩ | ⟨g, cap, cur, rfl, hb, hh, hnc, _, hsz, ht⟩
  · exact ⟨none, B, 0, rfl, Nat.le_refl _, hl, .inl rfl⟩
  · refine ⟨_, g, cap, rfl, hb, hl, .inr ⟨rfl, cur, hh, by omega, fun i hi => ?_⟩⟩
    have e : (cur.toList.take (n * 1))[i]? = (l.map (Value.int .i64))[i]? := by rw [ht]
    rw [List.getElem?_take_of_lt (by omega), Array.getElem?_toList] at e
    rw [e]
    simp [List.getElem?_eq_getElem (show i < l.length by omega)]

theorem own_row {B : Nat} {w : World} {v : Value} {n : Nat} {l : List Int} (hown : w.ownsRow B 3 1 v n (l.map (Value.int .i64))) : ∃ a c, v = .slice a n c ∧ Row w a n l := by
  obtain ⟨a, b, c, e, _, ho⟩ := own_ob hown
  exact ⟨a, c, e, ho.row⟩

end Go.Proofs.Ytegabkegbhglfaa
