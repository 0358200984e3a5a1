/- Contracts that the proof stands on, one behind the other. -/
import Derived.Test.YtegabkegbhglfaaP22
/- The nets drawn by walked: DrawStepBack, DrawExplore, DrawIsLive, DrawBoundOf, whatever the bytes; nothing that was there is written. -/
namespace Go.Proofs.Ytegabkegbhglfaa
open Go.RowKit
set_option maxRecDepth 10000

/-- Behind walked, until the draw ends. -/
structure DrSt (w W : World) (B T bc R V : Nat) (ca : Option Addr) (cn cc p : Nat) (bs : List Int) (pl : Int) (ua : Option Addr) (k uc : Nat) (L : List (List Int)) (a : Option Addr) (n : Nat) (xs : List Int) : Prop where
  res : W.heap[R]? = some (.cells #[.int .i64 0, .slice none 0 0] 39 (0, 0))
  box : W.heap[V]? = some (.cells #[.int .i64 pl, .slice ua k uc] 39 (0, 0))
  stab : ∀ W', T ≤ W'.heap.size → (∀ q, B ≤ q → q < T → W'.heap[q]? = W.heap[q]?) → Lists W' ua (3 * k) L ∧ Row W' a n xs
  low : T ≤ W.heap.size
  cur : Cur W bc ca cn cc p
  byt : RowB W ca cn bs
  kept : Below w.heap.size w W

theorem DrSt.go {w W W' : World} {B T bc R V cn cc p p' k uc n : Nat} {ca ua a : Option Addr} {bs xs : List Int} {pl : Int} {L : List (List Int)} (h : DrSt w W B T bc R V ca cn cc p bs pl ua k uc L a n xs) (hk : Kept bc W.heap.size W W') (hc : Cur W' bc ca cn cc p') (hb : bc < B) (hR : R ≠ bc) (hV : V ≠ bc) (hw : w.heap.size ≤ bc) (hap : Apart ca cn bc) : DrSt w W' B T bc R V ca cn cc p' bs pl ua k uc L a n xs :=
  ⟨(hk.block R (row_lt h.res) hR).trans h.res, (hk.block V (row_lt h.box) hV).trans h.box, fun W2 h1 h2 => h.stab W2 h1 fun q hq1 hq2 => (h2 q hq1 hq2).trans (hk.block q (Nat.lt_of_lt_of_le hq2 h.low) (by omega)), Nat.le_trans h.low hk.size, hc, h.byt.kept hk hap, h.kept.trans ((hk.mono h.kept.size).below hw)⟩

/-- What a draw leaves stays while what lies from B to T stays. -/
def Stab (B : Nat) (w' : World) (ua : Option Addr) (k : Nat) (L : List (List Int)) (a : Option Addr) (n : Nat) (xs : List Int) : Prop :=
  ∀ W, w'.heap.size ≤ W.heap.size → (∀ q, B ≤ q → q < w'.heap.size → W.heap[q]? = w'.heap[q]?) → Lists W ua (3 * k) L ∧ Row W a n xs

theorem DrSt.done {w W : World} {B T bc R V cn cc p k uc n : Nat} {ca ua a : Option Addr} {bs xs : List Int} {pl : Int} {L : List (List Int)} (h : DrSt w W B T bc R V ca cn cc p bs pl ua k uc L a n xs) (hw : w.heap.size ≤ R) (hB : R < B) (D : Array Value) : Stab w.heap.size (W.setRow R D) ua k L a n xs ∧ Below w.heap.size w (W.setRow R D) := by
  have hz : (W.setRow R D).heap.size = W.heap.size := by simp [World.setRow]
  have hl := h.low
  refine ⟨fun W' h1 h2 => h.stab W' (by omega) fun q hq1 hq2 => (h2 q (by omega) (by omega)).trans (setRow_otherW _ (by omega) _), h.kept.os, h.kept.tape, h.kept.output, by rw [hz]; exact h.kept.size, fun q hq => (setRow_otherW _ (by omega) _).trans (h.kept.block q hq)⟩

set_option maxHeartbeats 400000 in
theorem budget_draw (bc : Nat) (ca : Option Addr) (cn cc p : Nat) (bs : List Int) (w : World) (h : Cur w bc ca cn cc p) (hr : RowB w ca cn bs) (hap : Apart ca cn bc) (hp : p ≤ 1000000) (hn : cn ≤ 1048576) :
    Calls Try.prog 67 #[.pointer (some ⟨bc, 0, none⟩)] w fun e w' => ∃ x : Int, e = .returned (.int .i64 x) ∧ (0 ≤ x ∧ x ≤ 401) ∧ Cur w' bc ca cn cc (p + 1) ∧ Kept bc w.heap.size w w' := by
  have hbc := h.lt
  have HB := hide ((Below.refl w.heap.size w).alloc (Nat.le_refl _) (.cells (cellsOf [1, 5, 20, 100, 100, 400, 401, 0]) 3))
  have HN := hide (among_any 8 8 (some ⟨w.heap.size, 0, none⟩) [1, 5, 20, 100, 100, 400, 401, 0] bc ca cn cc p bs (w.alloc (.cells (cellsOf [1, 5, 20, 100, 100, 400, 401, 0]) 3)) (h.below HB.out hbc) (hr.kept (Kept.of_below HB.out) hap) hp hn (by omega) (by omega)
    (row_new w _ 8 _ rfl rfl) (by intro _ x hx; obtain rfl := Option.some.inj hx; simp; omega))
  clear h hr
  go_enter Try.func67, Try.ntmps67
  go_wp2_with fail
  refine HN.out.mono ?_
  rintro e w1 ⟨x, rfl, hx, hcur, ho⟩
  have HC := hide hcur
  have HO := hide ho
  have hx2 : 0 ≤ x ∧ x ≤ 401 := by simp at hx; omega
  clear hcur ho hx
  go_wp2
  go_ret
  exact ⟨x, rfl, hx2, HC.out, (Kept.of_below HB.out).trans (Kept.of_only HO.out)⟩

theorem step_num (r r2 : Nat) (hr : r < 6) (hr2 : r2 < 12) : IntKind.i64.wrap ((r : Int) - IntKind.i64.wrap ((r2 : Int) / 11)) = (r : Int) - (r2 : Int) / 11 := by
  have e1 : IntKind.i64.wrap ((r2 : Int) / 11) = (r2 : Int) / 11 := by rw [IntKind.wrap_i64]; omega
  rw [e1, IntKind.wrap_i64]; omega

def SBDr (w : World) (e : Ending) (w' : World) : Prop :=
  ∃ (pl : Int) (ua : Option Addr) (k uc : Nat) (L : List (List Int)) (a : Option Addr) (n c : Nat) (xs : List Int) (t : Int), e = .returned (.tuple #[.agg #[.int .i64 pl, .slice ua k uc], .int .i64 t, .slice a n c]) ∧ (0 ≤ pl ∧ pl ≤ 60) ∧ k ≤ 61 ∧ sizeN k L ≤ 6400 ∧ n ≤ 60 ∧ Stab w.heap.size w' ua k L a n xs ∧ Below w.heap.size w w' ∧ (-1 ≤ t ∧ t ≤ 5)

set_option maxHeartbeats 2000000 in
theorem drawSB_any (ca : Option Addr) (cn cc : Nat) (bs : List Int) (w : World) (hr : RowB w ca cn bs) (hn : cn ≤ 1048576) :
    Calls Try.prog 45 #[.slice ca cn cc] w fun e w' => SBDr w e w' := by
  have hA := below_al w (.cells #[.int .i64 0, .slice none 0 0] 39)
  have hA2 := below_al (w.alloc (.cells #[.int .i64 0, .slice none 0 0] 39)) (.cells #[.slice ca cn cc, .int .i64 0, .int .u64 0] 75)
  have HB := hide (hA.trans (hA2.mono hA.size))
  have HR := hide (hr.below HB.out)
  have HAP : Hid (Apart ca cn (w.heap.size + 1)) := fun h0 y hy => by have := hr.far h0 y hy; omega
  have HC : Hid (Cur ((w.alloc (.cells #[.int .i64 0, .slice none 0 0] 39)).alloc (.cells #[.slice ca cn cc, .int .i64 0, .int .u64 0] 75)) (w.heap.size + 1) ca cn cc 0) := ⟨0, by have := heap_alloc_new (w.alloc (.cells #[.int .i64 0, .slice none 0 0] 39)) (.cells #[.slice ca cn cc, .int .i64 0, .int .u64 0] 75); simpa using this⟩
  have HRES : Hid (((w.alloc (.cells #[.int .i64 0, .slice none 0 0] 39)).alloc (.cells #[.slice ca cn cc, .int .i64 0, .int .u64 0] 75)).heap[w.heap.size]? = some (.cells #[.int .i64 0, .slice none 0 0] 39 (0, 0))) := by
    show ((w.alloc _).alloc _).heap[w.heap.size]? = _
    rw [hA2.block _ (by simp)]; exact heap_alloc_new _ _
  have HSZ : Hid (((w.alloc (.cells #[.int .i64 0, .slice none 0 0] 39)).alloc (.cells #[.slice ca cn cc, .int .i64 0, .int .u64 0] 75)).heap.size = w.heap.size + 2) := by show _ = _; simp
  clear hr hA hA2
  go_enter Try.func45, Try.ntmps45
  go_wp2_with fail
  generalize (w.alloc (.cells #[.int .i64 0, .slice none 0 0] 39)).alloc (.cells #[.slice ca cn cc, .int .i64 0, .int .u64 0] 75) = w2 at HB HR HC HRES HSZ ⊢
  generalize hbb : w.heap.size + 1 = bc at HAP HC HSZ ⊢
  refine (walked_draw bc ca cn cc 0 bs _ HC.out HR.out HAP.out (by omega) hn).mono ?_
  rintro e v1 ⟨pl, ua, k, uc, L, a, n, c, xs, p1, rfl, hpl, hk, hsz, hn60, hp1, hstab, hcur, hby, hkp⟩
  have hA := below_al v1 (.cells #[.int .i64 pl, .slice ua k uc] 39)
  have hz2 := HSZ.out
  have hz1 := hkp.size
  have hbl := hcur.lt
  obtain ⟨B, hB⟩ : ∃ B, B = w2.heap.size := ⟨_, rfl⟩
  have S1 : Hid (DrSt w (v1.alloc (.cells #[.int .i64 pl, .slice ua k uc] 39)) B v1.heap.size bc w.heap.size v1.heap.size ca cn cc p1 bs pl ua k uc L a n xs) :=
    ⟨(hA.block _ (by omega)).trans ((hkp.block _ (by omega) (by omega)).trans HRES.out), heap_alloc_new v1 _,
      fun W' h1 h2 => hstab W' h1 fun q hq1 hq2 => (h2 q (by omega) hq2).trans (hA.block q hq2), hA.size, hcur.below hA hbl, hby.kept (Kept.of_below (bc := bc) hA) HAP.out,
      (HB.out.trans ((hkp.mono HB.out.size).below (by omega))).trans (hA.mono (by omega))⟩
  have hbB : bc < B := by omega
  have hRb : w.heap.size ≠ bc := by omega
  have hVb : v1.heap.size ≠ bc := by omega
  have hwb : w.heap.size ≤ bc := by omega
  have hRB : w.heap.size < B := by omega
  have hVR : v1.heap.size ≠ w.heap.size := by omega
  clear HB HR HC HRES HSZ hstab hcur hby hkp hA hz2 hz1 hbl hB hbb
  go_wp2_with fail
  generalize v1.alloc (.cells #[.int .i64 pl, .slice ua k uc] 39) = W3 at S1 ⊢
  generalize v1.heap.size = V at *
  have S2 := hide (S1.out.go (Kept.of_below (bc := bc) (Below.refl _ W3).drew) (S1.out.cur.below (Below.refl _ W3).drew S1.out.cur.lt) hbB hRb hVb hwb HAP.out)
  clear S1
  refine wp_region_held_drew (S := (fun W : World => W.heap[V]? = some (.cells #[.int .i64 pl, .slice ua k uc] 39 (0, 0)))) (by kernel_rfl) S2.out.box (fun hHeld => ?_)
  have hSv : (fun W : World => W.heap[V]? = some (.cells #[.int .i64 pl, .slice ua k uc] 39 (0, 0))) W3.drew := S2.out.box
  clear hHeld
  generalize W3.drew = vd at *
  refine take_yes (i := 0) (some 16) (.agg #[.int .i64 pl, .slice ua k uc]) rfl rfl (by kernel_rfl) (by kernel_rfl) (by kernel_rfl) (fun _ _ _ h => h) (by rfl) ?_ (by assumption) ?_
  · intro W' hSw
    exact exec_load_rowW 39 _ rfl _ rfl 39 _ _ _ hSw Try.underlying39 rfl Try.size39w
  simp only [Act.put, List.setIfInBounds_toArray, List.set_cons_zero, List.set_cons_succ]
  refine take_yes (i := 1) (some 17) (.pointer (some ⟨bc, 0, none⟩)) rfl rfl (by kernel_rfl) (by kernel_rfl) (by kernel_rfl) (fun _ _ _ h => h) (by rfl) ?_ (by assumption) ?_
  · intro W' hSw
    go_simp
  simp only [Act.put, List.setIfInBounds_toArray, List.set_cons_zero, List.set_cons_succ]
  refine take_yes (i := 3) (some 19) (.pointer (some ⟨bc, 0, none⟩)) rfl rfl (by kernel_rfl) (by kernel_rfl) (by kernel_rfl) (fun _ _ _ h => h) (by rfl) ?_ (by assumption) ?_
  · intro W' hSw
    go_simp
  simp only [Act.put, List.setIfInBounds_toArray, List.set_cons_zero, List.set_cons_succ]
  refine take_yes (i := 7) (some 23) (.slice a n c) rfl rfl (by kernel_rfl) (by kernel_rfl) (by kernel_rfl) (fun _ _ _ h => h) (by rfl) ?_ (by assumption) ?_
  · intro W' hSw
    go_simp
  simp only [Act.put, List.setIfInBounds_toArray, List.set_cons_zero, List.set_cons_succ]
  refine call_next (i := 2) (some 18) rfl rfl (by kernel_rfl) (by rfl) 51 _ _ _ rfl Try.func51 (by decide) rfl #[.pointer (some ⟨bc, 0, none⟩), .int .i64 6] (mapw2 _ _ _ _ _ rfl rfl) _ (pick_any 6 bc ca cn cc p1 bs _ S2.out.cur S2.out.byt (by omega) hn (by omega) (by omega)) ?_
  rintro e v3 ⟨r, rfl, hr, hcur, hkp⟩
  have S3 := hide (S2.out.go (Kept.of_only hkp) hcur hbB hRb hVb hwb HAP.out)
  clear S2 hSv hcur hkp
  refine ⟨_, rfl, S3.out.box, fun hSv => ?_⟩
  simp only [Act.put, List.setIfInBounds_toArray, List.set_cons_zero, List.set_cons_succ]
  refine call_next (i := 4) (some 20) rfl rfl (by kernel_rfl) (by rfl) 51 _ _ _ rfl Try.func51 (by decide) rfl #[.pointer (some ⟨bc, 0, none⟩), .int .i64 12] (mapw2 _ _ _ _ _ rfl rfl) _ (pick_any 12 bc ca cn cc (p1 + 1) bs _ S3.out.cur S3.out.byt (by omega) hn (by omega) (by omega)) ?_
  rintro e v4 ⟨r2, rfl, hr2, hcur, hkp⟩
  have S4 := hide (S3.out.go (Kept.of_only hkp) hcur hbB hRb hVb hwb HAP.out)
  clear S3 hSv hcur hkp
  refine ⟨_, rfl, S4.out.box, fun hSv => ?_⟩
  simp only [Act.put, List.setIfInBounds_toArray, List.set_cons_zero, List.set_cons_succ]
  refine take_yes (i := 5) (some 21) (.int .i64 (IntKind.i64.wrap ((r2 : Int) / 11))) rfl rfl (by kernel_rfl) (by kernel_rfl) (by kernel_rfl) (fun _ _ _ h => h) (by rfl) ?_ (by assumption) ?_
  · intro W' hSw
    go_simp
  simp only [Act.put, List.setIfInBounds_toArray, List.set_cons_zero, List.set_cons_succ]
  refine take_yes (i := 6) (some 22) (.int .i64 (IntKind.i64.wrap ((r : Int) - IntKind.i64.wrap ((r2 : Int) / 11)))) rfl rfl (by kernel_rfl) (by kernel_rfl) (by kernel_rfl) (fun _ _ _ h => h) (by rfl) ?_ (by assumption) ?_
  · intro W' hSw
    go_simp
  simp only [Act.put, List.setIfInBounds_toArray, List.set_cons_zero, List.set_cons_succ]
  have hg0 := S4.out.res
  have hnone : (#[.int .i64 pl, .slice ua k uc] : Array Value).all (·.oneCell') = true := by simp [Value.oneCell']
  have hS5 : (fun W : World => W.heap[V]? = some (.cells #[.int .i64 pl, .slice ua k uc] 39 (0, 0))) (v4.setRow w.heap.size #[.int .i64 pl, .slice ua k uc]) := (setRow_otherW _ hVR _).trans S4.out.box
  obtain ⟨hfl, hfb⟩ := S4.out.done (Nat.le_refl _) hRB #[.int .i64 pl, .slice ua k uc]
  have HE : Hid (SBDr w (.returned (.tuple #[.agg #[.int .i64 pl, .slice ua k uc], .int .i64 (IntKind.i64.wrap ((r : Int) - IntKind.i64.wrap ((r2 : Int) / 11))), .slice a n c])) (v4.setRow w.heap.size #[.int .i64 pl, .slice ua k uc])) := ⟨pl, ua, k, uc, L, a, n, c, xs, _, rfl, hpl, hk, hsz, hn60, hfl, hfb, by rw [step_num r r2 hr hr2]; omega⟩
  have hz5 := setRow_sameW hg0 #[.int .i64 pl, .slice ua k uc]
  have hy0 := cell_of_row _ w.heap.size 0 _ _ _ hz5
  have hy1 := cell_of_row _ w.heap.size 1 _ _ _ hz5
  simp at hy0 hy1
  clear hfl hfb hSv
  refine store_next (i := 8) rfl rfl (by kernel_rfl) (by rfl) 39 _ _ rfl w.heap.size #[.int .i64 pl, .slice ua k uc] rfl rfl 39 _ hg0 Try.size39w rfl hnone hS5 (fun _ => ?_)
  refine take_yes (i := 9) (some 3) (.int .i64 (IntKind.i64.wrap ((r : Int) - IntKind.i64.wrap ((r2 : Int) / 11)))) rfl rfl (by kernel_rfl) (by kernel_rfl) (by kernel_rfl) (fun _ _ _ h => h) (by rfl) ?_ (by assumption) ?_
  · intro W' hSw
    go_simp
  simp only [Act.put, List.setIfInBounds_toArray, List.set_cons_zero, List.set_cons_succ]
  refine take_yes (i := 10) (some 4) (.slice a n c) rfl rfl (by kernel_rfl) (by kernel_rfl) (by kernel_rfl) (fun _ _ _ h => h) (by rfl) ?_ (by assumption) ?_
  · intro W' hSw
    go_simp
  simp only [Act.put, List.setIfInBounds_toArray, List.set_cons_zero, List.set_cons_succ]
  refine wpAnyH_done (by kernel_rfl) ?_ _
  go_wp2_with fail
  refine bodyPost_ret (v := .tuple #[.agg #[.int .i64 pl, .slice ua k uc], .int .i64 (IntKind.i64.wrap ((r : Int) - IntKind.i64.wrap ((r2 : Int) / 11))), .slice a n c]) (by simp [results, Try.results45, go_sem, hy0, hy1]) rfl ?_
  exact HE.out

def XpDr (w : World) (e : Ending) (w' : World) : Prop :=
  ∃ (pl : Int) (ua : Option Addr) (k uc : Nat) (L : List (List Int)) (a : Option Addr) (n c : Nat) (xs : List Int) (bg : Int), e = .returned (.tuple #[.agg #[.int .i64 pl, .slice ua k uc], .slice a n c, .int .i64 bg]) ∧ (0 ≤ pl ∧ pl ≤ 60) ∧ k ≤ 61 ∧ sizeN k L ≤ 6400 ∧ n ≤ 60 ∧ Stab w.heap.size w' ua k L a n xs ∧ Below w.heap.size w w' ∧ (0 ≤ bg ∧ bg ≤ 401)

set_option maxHeartbeats 2000000 in
theorem drawXp_any (ca : Option Addr) (cn cc : Nat) (bs : List Int) (w : World) (hr : RowB w ca cn bs) (hn : cn ≤ 1048576) :
    Calls Try.prog 17 #[.slice ca cn cc] w fun e w' => XpDr w e w' := by
  have hA := below_al w (.cells #[.int .i64 0, .slice none 0 0] 39)
  have hA2 := below_al (w.alloc (.cells #[.int .i64 0, .slice none 0 0] 39)) (.cells #[.slice ca cn cc, .int .i64 0, .int .u64 0] 75)
  have HB := hide (hA.trans (hA2.mono hA.size))
  have HR := hide (hr.below HB.out)
  have HAP : Hid (Apart ca cn (w.heap.size + 1)) := fun h0 y hy => by have := hr.far h0 y hy; omega
  have HC : Hid (Cur ((w.alloc (.cells #[.int .i64 0, .slice none 0 0] 39)).alloc (.cells #[.slice ca cn cc, .int .i64 0, .int .u64 0] 75)) (w.heap.size + 1) ca cn cc 0) := ⟨0, by have := heap_alloc_new (w.alloc (.cells #[.int .i64 0, .slice none 0 0] 39)) (.cells #[.slice ca cn cc, .int .i64 0, .int .u64 0] 75); simpa using this⟩
  have HRES : Hid (((w.alloc (.cells #[.int .i64 0, .slice none 0 0] 39)).alloc (.cells #[.slice ca cn cc, .int .i64 0, .int .u64 0] 75)).heap[w.heap.size]? = some (.cells #[.int .i64 0, .slice none 0 0] 39 (0, 0))) := by
    show ((w.alloc _).alloc _).heap[w.heap.size]? = _
    rw [hA2.block _ (by simp)]; exact heap_alloc_new _ _
  have HSZ : Hid (((w.alloc (.cells #[.int .i64 0, .slice none 0 0] 39)).alloc (.cells #[.slice ca cn cc, .int .i64 0, .int .u64 0] 75)).heap.size = w.heap.size + 2) := by show _ = _; simp
  clear hr hA hA2
  go_enter Try.func17, Try.ntmps17
  go_wp2_with fail
  generalize (w.alloc (.cells #[.int .i64 0, .slice none 0 0] 39)).alloc (.cells #[.slice ca cn cc, .int .i64 0, .int .u64 0] 75) = w2 at HB HR HC HRES HSZ ⊢
  generalize hbb : w.heap.size + 1 = bc at HAP HC HSZ ⊢
  refine (walked_draw bc ca cn cc 0 bs _ HC.out HR.out HAP.out (by omega) hn).mono ?_
  rintro e v1 ⟨pl, ua, k, uc, L, a, n, c, xs, p1, rfl, hpl, hk, hsz, hn60, hp1, hstab, hcur, hby, hkp⟩
  have hA := below_al v1 (.cells #[.int .i64 pl, .slice ua k uc] 39)
  have hz2 := HSZ.out
  have hz1 := hkp.size
  have hbl := hcur.lt
  obtain ⟨B, hB⟩ : ∃ B, B = w2.heap.size := ⟨_, rfl⟩
  have S1 : Hid (DrSt w (v1.alloc (.cells #[.int .i64 pl, .slice ua k uc] 39)) B v1.heap.size bc w.heap.size v1.heap.size ca cn cc p1 bs pl ua k uc L a n xs) :=
    ⟨(hA.block _ (by omega)).trans ((hkp.block _ (by omega) (by omega)).trans HRES.out), heap_alloc_new v1 _,
      fun W' h1 h2 => hstab W' h1 fun q hq1 hq2 => (h2 q (by omega) hq2).trans (hA.block q hq2), hA.size, hcur.below hA hbl, hby.kept (Kept.of_below (bc := bc) hA) HAP.out,
      (HB.out.trans ((hkp.mono HB.out.size).below (by omega))).trans (hA.mono (by omega))⟩
  have hbB : bc < B := by omega
  have hRb : w.heap.size ≠ bc := by omega
  have hVb : v1.heap.size ≠ bc := by omega
  have hwb : w.heap.size ≤ bc := by omega
  have hRB : w.heap.size < B := by omega
  have hVR : v1.heap.size ≠ w.heap.size := by omega
  clear HB HR HC HRES HSZ hstab hcur hby hkp hA hz2 hz1 hbl hB hbb
  go_wp2_with fail
  generalize v1.alloc (.cells #[.int .i64 pl, .slice ua k uc] 39) = W3 at S1 ⊢
  generalize v1.heap.size = V at *
  have S2 := hide (S1.out.go (Kept.of_below (bc := bc) (Below.refl _ W3).drew) (S1.out.cur.below (Below.refl _ W3).drew S1.out.cur.lt) hbB hRb hVb hwb HAP.out)
  clear S1
  refine wp_region_held_drew (S := (fun W : World => W.heap[V]? = some (.cells #[.int .i64 pl, .slice ua k uc] 39 (0, 0)))) (by kernel_rfl) S2.out.box (fun hHeld => ?_)
  have hSv : (fun W : World => W.heap[V]? = some (.cells #[.int .i64 pl, .slice ua k uc] 39 (0, 0))) W3.drew := S2.out.box
  clear hHeld
  generalize W3.drew = vd at *
  refine take_yes (i := 0) (some 16) (.agg #[.int .i64 pl, .slice ua k uc]) rfl rfl (by kernel_rfl) (by kernel_rfl) (by kernel_rfl) (fun _ _ _ h => h) (by rfl) ?_ (by assumption) ?_
  · intro W' hSw
    exact exec_load_rowW 39 _ rfl _ rfl 39 _ _ _ hSw Try.underlying39 rfl Try.size39w
  simp only [Act.put, List.setIfInBounds_toArray, List.set_cons_zero, List.set_cons_succ]
  refine take_yes (i := 1) (some 17) (.slice a n c) rfl rfl (by kernel_rfl) (by kernel_rfl) (by kernel_rfl) (fun _ _ _ h => h) (by rfl) ?_ (by assumption) ?_
  · intro W' hSw
    go_simp
  simp only [Act.put, List.setIfInBounds_toArray, List.set_cons_zero, List.set_cons_succ]
  refine take_yes (i := 2) (some 18) (.pointer (some ⟨bc, 0, none⟩)) rfl rfl (by kernel_rfl) (by kernel_rfl) (by kernel_rfl) (fun _ _ _ h => h) (by rfl) ?_ (by assumption) ?_
  · intro W' hSw
    go_simp
  simp only [Act.put, List.setIfInBounds_toArray, List.set_cons_zero, List.set_cons_succ]
  refine call_next (i := 3) (some 19) rfl rfl (by kernel_rfl) (by rfl) 67 _ _ _ rfl Try.func67 (by decide) rfl #[.pointer (some ⟨bc, 0, none⟩)] (mapw1 _ _ _ rfl) _ (budget_draw bc ca cn cc p1 bs _ S2.out.cur S2.out.byt HAP.out (by omega) hn) ?_
  rintro e v3 ⟨bg, rfl, hbg, hcur, hkp⟩
  have S3 := hide (S2.out.go hkp hcur hbB hRb hVb hwb HAP.out)
  clear S2 hSv hcur hkp
  refine ⟨_, rfl, S3.out.box, fun hSv => ?_⟩
  simp only [Act.put, List.setIfInBounds_toArray, List.set_cons_zero, List.set_cons_succ]
  have hg0 := S3.out.res
  have hnone : (#[.int .i64 pl, .slice ua k uc] : Array Value).all (·.oneCell') = true := by simp [Value.oneCell']
  have hS5 : (fun W : World => W.heap[V]? = some (.cells #[.int .i64 pl, .slice ua k uc] 39 (0, 0))) (v3.setRow w.heap.size #[.int .i64 pl, .slice ua k uc]) := (setRow_otherW _ hVR _).trans S3.out.box
  obtain ⟨hfl, hfb⟩ := S3.out.done (Nat.le_refl _) hRB #[.int .i64 pl, .slice ua k uc]
  have HE : Hid (XpDr w (.returned (.tuple #[.agg #[.int .i64 pl, .slice ua k uc], .slice a n c, .int .i64 bg])) (v3.setRow w.heap.size #[.int .i64 pl, .slice ua k uc])) := ⟨pl, ua, k, uc, L, a, n, c, xs, bg, rfl, hpl, hk, hsz, hn60, hfl, hfb, hbg⟩
  have hz5 := setRow_sameW hg0 #[.int .i64 pl, .slice ua k uc]
  have hy0 := cell_of_row _ w.heap.size 0 _ _ _ hz5
  have hy1 := cell_of_row _ w.heap.size 1 _ _ _ hz5
  simp at hy0 hy1
  clear hfl hfb hSv
  refine store_next (i := 4) rfl rfl (by kernel_rfl) (by rfl) 39 _ _ rfl w.heap.size #[.int .i64 pl, .slice ua k uc] rfl rfl 39 _ hg0 Try.size39w rfl hnone hS5 (fun _ => ?_)
  refine take_yes (i := 5) (some 3) (.slice a n c) rfl rfl (by kernel_rfl) (by kernel_rfl) (by kernel_rfl) (fun _ _ _ h => h) (by rfl) ?_ (by assumption) ?_
  · intro W' hSw
    go_simp
  simp only [Act.put, List.setIfInBounds_toArray, List.set_cons_zero, List.set_cons_succ]
  refine take_yes (i := 6) (some 4) (.int .i64 bg) rfl rfl (by kernel_rfl) (by kernel_rfl) (by kernel_rfl) (fun _ _ _ h => h) (by rfl) ?_ (by assumption) ?_
  · intro W' hSw
    go_simp
  simp only [Act.put, List.setIfInBounds_toArray, List.set_cons_zero, List.set_cons_succ]
  refine wpAnyH_done (by kernel_rfl) ?_ _
  go_wp2_with fail
  refine bodyPost_ret (v := .tuple #[.agg #[.int .i64 pl, .slice ua k uc], .slice a n c, .int .i64 bg]) (by simp [results, Try.results17, go_sem, hy0, hy1]) rfl ?_
  exact HE.out

set_option maxHeartbeats 1000000 in
theorem drawLv_any (ca : Option Addr) (cn cc : Nat) (bs : List Int) (w : World) (hr : RowB w ca cn bs) (hn : cn ≤ 1048576) :
    Calls Try.prog 29 #[.slice ca cn cc] w fun e w' => XpDr w e w' := by
  have hA := below_al w (.cells #[.int .i64 0, .slice none 0 0] 39)
  have HB := hide hA
  have HR := hide (hr.below hA)
  have HRES := hide (heap_alloc_new w (.cells #[.int .i64 0, .slice none 0 0] 39))
  clear hr hA
  go_enter Try.func29, Try.ntmps29
  go_wp2_with fail
  refine (drawXp_any ca cn cc bs _ HR.out hn).mono ?_
  rintro e v1 ⟨pl, ua, k, uc, L, a, n, c, xs, bg, rfl, hpl, hk, hsz, hn60, hl, hb, hbg⟩
  have hz := HB.out.size
  have HR1 := hide ((hb.block _ (row_lt HRES.out)).trans HRES.out)
  have hr0 := cell_of_row v1 w.heap.size 0 _ _ _ HR1.out
  have hr1 := cell_of_row v1 w.heap.size 1 _ _ _ HR1.out
  have hf0 := frozen_of_row v1 w.heap.size 0 _ _ HR1.out
  have hf1 := frozen_of_row v1 w.heap.size 1 _ _ HR1.out
  simp at hr0 hr1
  have far : ∀ q, q ≠ w.heap.size → ((v1.setCell ⟨w.heap.size, 0, none⟩ (.int .i64 pl)).setCell ⟨w.heap.size, 1, none⟩ (.slice ua k uc)).heap[q]? = v1.heap[q]? := fun q hq => set2V_far (v := v1) hq (.int .i64 pl) (.slice ua k uc)
  obtain ⟨y0, y1⟩ := cells2 (set2V HR1.out (.int .i64 pl) (.slice ua k uc))
  have HL := hide hl
  have HB1 := hide hb
  clear hl hb HR
  go_wp2_with fail
  refine bodyPost_ret (v := .tuple #[.agg #[.int .i64 pl, .slice ua k uc], .slice a n c, .int .i64 bg]) (by simp [results, Try.results29, go_sem, y0, y1]) rfl ?_
  have hz2 : ((v1.setCell ⟨w.heap.size, 0, none⟩ (.int .i64 pl)).setCell ⟨w.heap.size, 1, none⟩ (.slice ua k uc)).heap.size = v1.heap.size := by simp only [sizeV]
  have hz3 : (w.alloc (.cells #[.int .i64 0, .slice none 0 0] 39)).heap.size = w.heap.size + 1 := by simp
  refine ⟨pl, ua, k, uc, L, a, n, c, xs, bg, rfl, hpl, hk, hsz, hn60, fun W' h1 h2 => HL.out W' (by omega) fun q hq1 hq2 => (h2 q (by omega) (by omega)).trans (far q (by omega)), ?_, hbg⟩
  have hq := HB.out.trans (HB1.out.mono hz)
  exact ⟨hq.os, hq.tape, hq.output, by rw [hz2]; exact hq.size, fun q hq1 => (far q (by omega)).trans (hq.block q hq1)⟩

def BoDr (w : World) (e : Ending) (w' : World) : Prop :=
  ∃ (pl : Int) (ua : Option Addr) (k uc : Nat) (L : List (List Int)) (a : Option Addr) (n c : Nat) (xs : List Int) (bg t : Int), e = .returned (.tuple #[.agg #[.int .i64 pl, .slice ua k uc], .slice a n c, .int .i64 bg, .int .i64 t]) ∧ (0 ≤ pl ∧ pl ≤ 60) ∧ k ≤ 61 ∧ sizeN k L ≤ 6400 ∧ n ≤ 60 ∧ Stab w.heap.size w' ua k L a n xs ∧ Below w.heap.size w w' ∧ (0 ≤ bg ∧ bg ≤ 401) ∧ (-1 ≤ t ∧ t ≤ 5)

set_option maxHeartbeats 2000000 in
theorem drawBo_any (ca : Option Addr) (cn cc : Nat) (bs : List Int) (w : World) (hr : RowB w ca cn bs) (hn : cn ≤ 1048576) :
    Calls Try.prog 36 #[.slice ca cn cc] w fun e w' => BoDr w e w' := by
  have hA := below_al w (.cells #[.int .i64 0, .slice none 0 0] 39)
  have hA2 := below_al (w.alloc (.cells #[.int .i64 0, .slice none 0 0] 39)) (.cells #[.slice ca cn cc, .int .i64 0, .int .u64 0] 75)
  have HB := hide (hA.trans (hA2.mono hA.size))
  have HR := hide (hr.below HB.out)
  have HAP : Hid (Apart ca cn (w.heap.size + 1)) := fun h0 y hy => by have := hr.far h0 y hy; omega
  have HC : Hid (Cur ((w.alloc (.cells #[.int .i64 0, .slice none 0 0] 39)).alloc (.cells #[.slice ca cn cc, .int .i64 0, .int .u64 0] 75)) (w.heap.size + 1) ca cn cc 0) := ⟨0, by have := heap_alloc_new (w.alloc (.cells #[.int .i64 0, .slice none 0 0] 39)) (.cells #[.slice ca cn cc, .int .i64 0, .int .u64 0] 75); simpa using this⟩
  have HRES : Hid (((w.alloc (.cells #[.int .i64 0, .slice none 0 0] 39)).alloc (.cells #[.slice ca cn cc, .int .i64 0, .int .u64 0] 75)).heap[w.heap.size]? = some (.cells #[.int .i64 0, .slice none 0 0] 39 (0, 0))) := by
    show ((w.alloc _).alloc _).heap[w.heap.size]? = _
    rw [hA2.block _ (by simp)]; exact heap_alloc_new _ _
  have HSZ : Hid (((w.alloc (.cells #[.int .i64 0, .slice none 0 0] 39)).alloc (.cells #[.slice ca cn cc, .int .i64 0, .int .u64 0] 75)).heap.size = w.heap.size + 2) := by show _ = _; simp
  clear hr hA hA2
  go_enter Try.func36, Try.ntmps36
  go_wp2_with fail
  generalize (w.alloc (.cells #[.int .i64 0, .slice none 0 0] 39)).alloc (.cells #[.slice ca cn cc, .int .i64 0, .int .u64 0] 75) = w2 at HB HR HC HRES HSZ ⊢
  generalize hbb : w.heap.size + 1 = bc at HAP HC HSZ ⊢
  refine (walked_draw bc ca cn cc 0 bs _ HC.out HR.out HAP.out (by omega) hn).mono ?_
  rintro e v1 ⟨pl, ua, k, uc, L, a, n, c, xs, p1, rfl, hpl, hk, hsz, hn60, hp1, hstab, hcur, hby, hkp⟩
  have hA := below_al v1 (.cells #[.int .i64 pl, .slice ua k uc] 39)
  have hz2 := HSZ.out
  have hz1 := hkp.size
  have hbl := hcur.lt
  obtain ⟨B, hB⟩ : ∃ B, B = w2.heap.size := ⟨_, rfl⟩
  have S1 : Hid (DrSt w (v1.alloc (.cells #[.int .i64 pl, .slice ua k uc] 39)) B v1.heap.size bc w.heap.size v1.heap.size ca cn cc p1 bs pl ua k uc L a n xs) :=
    ⟨(hA.block _ (by omega)).trans ((hkp.block _ (by omega) (by omega)).trans HRES.out), heap_alloc_new v1 _,
      fun W' h1 h2 => hstab W' h1 fun q hq1 hq2 => (h2 q (by omega) hq2).trans (hA.block q hq2), hA.size, hcur.below hA hbl, hby.kept (Kept.of_below (bc := bc) hA) HAP.out,
      (HB.out.trans ((hkp.mono HB.out.size).below (by omega))).trans (hA.mono (by omega))⟩
  have hbB : bc < B := by omega
  have hRb : w.heap.size ≠ bc := by omega
  have hVb : v1.heap.size ≠ bc := by omega
  have hwb : w.heap.size ≤ bc := by omega
  have hRB : w.heap.size < B := by omega
  have hVR : v1.heap.size ≠ w.heap.size := by omega
  clear HB HR HC HRES HSZ hstab hcur hby hkp hA hz2 hz1 hbl hB hbb
  go_wp2_with fail
  generalize v1.alloc (.cells #[.int .i64 pl, .slice ua k uc] 39) = W3 at S1 ⊢
  generalize v1.heap.size = V at *
  refine (budget_draw bc ca cn cc p1 bs _ S1.out.cur S1.out.byt HAP.out (by omega) hn).mono ?_
  rintro e vb ⟨bg, rfl, hbg, hcur, hkp⟩
  have S1b := hide (S1.out.go hkp hcur hbB hRb hVb hwb HAP.out)
  clear S1 hcur hkp
  go_wp2_with fail
  have S2 := hide (S1b.out.go (Kept.of_below (bc := bc) (Below.refl _ vb).drew) (S1b.out.cur.below (Below.refl _ vb).drew S1b.out.cur.lt) hbB hRb hVb hwb HAP.out)
  clear S1b
  refine wp_region_held_drew (S := (fun W : World => W.heap[V]? = some (.cells #[.int .i64 pl, .slice ua k uc] 39 (0, 0)))) (by kernel_rfl) S2.out.box (fun hHeld => ?_)
  have hSv : (fun W : World => W.heap[V]? = some (.cells #[.int .i64 pl, .slice ua k uc] 39 (0, 0))) vb.drew := S2.out.box
  clear hHeld
  generalize vb.drew = vd at *
  refine take_yes (i := 0) (some 20) (.agg #[.int .i64 pl, .slice ua k uc]) rfl rfl (by kernel_rfl) (by kernel_rfl) (by kernel_rfl) (fun _ _ _ h => h) (by rfl) ?_ (by assumption) ?_
  · intro W' hSw
    exact exec_load_rowW 39 _ rfl _ rfl 39 _ _ _ hSw Try.underlying39 rfl Try.size39w
  simp only [Act.put, List.setIfInBounds_toArray, List.set_cons_zero, List.set_cons_succ]
  refine take_yes (i := 1) (some 21) (.slice a n c) rfl rfl (by kernel_rfl) (by kernel_rfl) (by kernel_rfl) (fun _ _ _ h => h) (by rfl) ?_ (by assumption) ?_
  · intro W' hSw
    go_simp
  simp only [Act.put, List.setIfInBounds_toArray, List.set_cons_zero, List.set_cons_succ]
  refine take_yes (i := 2) (some 22) (.int .i64 bg) rfl rfl (by kernel_rfl) (by kernel_rfl) (by kernel_rfl) (fun _ _ _ h => h) (by rfl) ?_ (by assumption) ?_
  · intro W' hSw
    go_simp
  simp only [Act.put, List.setIfInBounds_toArray, List.set_cons_zero, List.set_cons_succ]
  refine take_yes (i := 3) (some 23) (.pointer (some ⟨bc, 0, none⟩)) rfl rfl (by kernel_rfl) (by kernel_rfl) (by kernel_rfl) (fun _ _ _ h => h) (by rfl) ?_ (by assumption) ?_
  · intro W' hSw
    go_simp
  simp only [Act.put, List.setIfInBounds_toArray, List.set_cons_zero, List.set_cons_succ]
  refine take_yes (i := 5) (some 25) (.pointer (some ⟨bc, 0, none⟩)) rfl rfl (by kernel_rfl) (by kernel_rfl) (by kernel_rfl) (fun _ _ _ h => h) (by rfl) ?_ (by assumption) ?_
  · intro W' hSw
    go_simp
  simp only [Act.put, List.setIfInBounds_toArray, List.set_cons_zero, List.set_cons_succ]
  refine call_next (i := 4) (some 24) rfl rfl (by kernel_rfl) (by rfl) 51 _ _ _ rfl Try.func51 (by decide) rfl #[.pointer (some ⟨bc, 0, none⟩), .int .i64 6] (mapw2 _ _ _ _ _ rfl rfl) _ (pick_any 6 bc ca cn cc (p1 + 1) bs _ S2.out.cur S2.out.byt (by omega) hn (by omega) (by omega)) ?_
  rintro e v3 ⟨r, rfl, hr, hcur, hkp⟩
  have S3 := hide (S2.out.go (Kept.of_only hkp) hcur hbB hRb hVb hwb HAP.out)
  clear S2 hSv hcur hkp
  refine ⟨_, rfl, S3.out.box, fun hSv => ?_⟩
  simp only [Act.put, List.setIfInBounds_toArray, List.set_cons_zero, List.set_cons_succ]
  refine call_next (i := 6) (some 26) rfl rfl (by kernel_rfl) (by rfl) 51 _ _ _ rfl Try.func51 (by decide) rfl #[.pointer (some ⟨bc, 0, none⟩), .int .i64 12] (mapw2 _ _ _ _ _ rfl rfl) _ (pick_any 12 bc ca cn cc (p1 + 1 + 1) bs _ S3.out.cur S3.out.byt (by omega) hn (by omega) (by omega)) ?_
  rintro e v4 ⟨r2, rfl, hr2, hcur, hkp⟩
  have S4 := hide (S3.out.go (Kept.of_only hkp) hcur hbB hRb hVb hwb HAP.out)
  clear S3 hSv hcur hkp
  refine ⟨_, rfl, S4.out.box, fun hSv => ?_⟩
  simp only [Act.put, List.setIfInBounds_toArray, List.set_cons_zero, List.set_cons_succ]
  refine take_yes (i := 7) (some 27) (.int .i64 (IntKind.i64.wrap ((r2 : Int) / 11))) rfl rfl (by kernel_rfl) (by kernel_rfl) (by kernel_rfl) (fun _ _ _ h => h) (by rfl) ?_ (by assumption) ?_
  · intro W' hSw
    go_simp
  simp only [Act.put, List.setIfInBounds_toArray, List.set_cons_zero, List.set_cons_succ]
  refine take_yes (i := 8) (some 28) (.int .i64 (IntKind.i64.wrap ((r : Int) - IntKind.i64.wrap ((r2 : Int) / 11)))) rfl rfl (by kernel_rfl) (by kernel_rfl) (by kernel_rfl) (fun _ _ _ h => h) (by rfl) ?_ (by assumption) ?_
  · intro W' hSw
    go_simp
  simp only [Act.put, List.setIfInBounds_toArray, List.set_cons_zero, List.set_cons_succ]
  have hg0 := S4.out.res
  have hnone : (#[.int .i64 pl, .slice ua k uc] : Array Value).all (·.oneCell') = true := by simp [Value.oneCell']
  have hS5 : (fun W : World => W.heap[V]? = some (.cells #[.int .i64 pl, .slice ua k uc] 39 (0, 0))) (v4.setRow w.heap.size #[.int .i64 pl, .slice ua k uc]) := (setRow_otherW _ hVR _).trans S4.out.box
  obtain ⟨hfl, hfb⟩ := S4.out.done (Nat.le_refl _) hRB #[.int .i64 pl, .slice ua k uc]
  have HE : Hid (BoDr w (.returned (.tuple #[.agg #[.int .i64 pl, .slice ua k uc], .slice a n c, .int .i64 bg, .int .i64 (IntKind.i64.wrap ((r : Int) - IntKind.i64.wrap ((r2 : Int) / 11)))])) (v4.setRow w.heap.size #[.int .i64 pl, .slice ua k uc])) := ⟨pl, ua, k, uc, L, a, n, c, xs, bg, _, rfl, hpl, hk, hsz, hn60, hfl, hfb, hbg, by rw [step_num r r2 hr hr2]; omega⟩
  have hz5 := setRow_sameW hg0 #[.int .i64 pl, .slice ua k uc]
  have hy0 := cell_of_row _ w.heap.size 0 _ _ _ hz5
  have hy1 := cell_of_row _ w.heap.size 1 _ _ _ hz5
  simp at hy0 hy1
  clear hfl hfb hSv
  refine store_next (i := 9) rfl rfl (by kernel_rfl) (by rfl) 39 _ _ rfl w.heap.size #[.int .i64 pl, .slice ua k uc] rfl rfl 39 _ hg0 Try.size39w rfl hnone hS5 (fun _ => ?_)
  refine take_yes (i := 10) (some 3) (.slice a n c) rfl rfl (by kernel_rfl) (by kernel_rfl) (by kernel_rfl) (fun _ _ _ h => h) (by rfl) ?_ (by assumption) ?_
  · intro W' hSw
    go_simp
  simp only [Act.put, List.setIfInBounds_toArray, List.set_cons_zero, List.set_cons_succ]
  refine take_yes (i := 11) (some 4) (.int .i64 bg) rfl rfl (by kernel_rfl) (by kernel_rfl) (by kernel_rfl) (fun _ _ _ h => h) (by rfl) ?_ (by assumption) ?_
  · intro W' hSw
    go_simp
  simp only [Act.put, List.setIfInBounds_toArray, List.set_cons_zero, List.set_cons_succ]
  refine take_yes (i := 12) (some 5) (.int .i64 (IntKind.i64.wrap ((r : Int) - IntKind.i64.wrap ((r2 : Int) / 11)))) rfl rfl (by kernel_rfl) (by kernel_rfl) (by kernel_rfl) (fun _ _ _ h => h) (by rfl) ?_ (by assumption) ?_
  · intro W' hSw
    go_simp
  simp only [Act.put, List.setIfInBounds_toArray, List.set_cons_zero, List.set_cons_succ]
  refine wpAnyH_done (by kernel_rfl) ?_ _
  go_wp2_with fail
  refine bodyPost_ret (v := .tuple #[.agg #[.int .i64 pl, .slice ua k uc], .slice a n c, .int .i64 bg, .int .i64 (IntKind.i64.wrap ((r : Int) - IntKind.i64.wrap ((r2 : Int) / 11)))]) (by simp [results, Try.results36, go_sem, hy0, hy1]) rfl ?_
  exact HE.out
end Go.Proofs.Ytegabkegbhglfaa


/- Rows of numbers, each of which append makes, in one block: for each mark those that fire to it. -/
namespace Go.Proofs.Ytegabkegbhglfaa
open Go.RowKit
set_option maxRecDepth 10000

/-- Those that fire to j, in the arcs' order. -/
def toL (ar : List (Nat × Nat × Nat)) (j : Nat) : List Nat := (ar.filter fun a => a.2.2 == j).map fun a => a.1

theorem toL_take {ar : List (Nat × Nat × Nat)} {k x y z : Nat} (h : ar[k]? = some (x, y, z)) (j : Nat) : toL (ar.take (k + 1)) j = if z = j then toL (ar.take k) j ++ [x] else toL (ar.take k) j := by
  unfold toL
  rw [List.take_add_one, h, List.filter_append, List.map_append]
  by_cases e : z = j
  · subst e; simp
  · simp [e]

theorem toL_mem {ar : List (Nat × Nat × Nat)} {i j : Nat} : i ∈ toL ar j ↔ ∃ t, (i, t, j) ∈ ar := by
  unfold toL
  rw [List.mem_map]
  constructor
  · rintro ⟨⟨a, b, c⟩, h1, rfl⟩
    rw [List.mem_filter] at h1
    have e : c = j := by simpa using h1.2
    exact ⟨b, by rw [← e]; exact h1.1⟩
  · rintro ⟨t, h⟩
    exact ⟨(i, t, j), List.mem_filter.2 ⟨h, by simp⟩, rfl⟩

theorem toL_len (ar : List (Nat × Nat × Nat)) (j : Nat) : (toL ar j).length ≤ ar.length := by
  unfold toL; rw [List.length_map]; exact List.length_filter_le _ _

/-- Block R holds N rows, each in a block of its own (or none), from base on. -/
structure AhSt (w : World) (R N base : Nat) (rows : Nat → List Nat) (V : Nat → Value) : Prop where
  outer : ∃ C, w.heap[R]? = some (.cells C 30 (0, 0)) ∧ C.size = N ∧ ∀ j, j < N → C[j]? = some (V j)
  row : ∀ j, j < N → Tail w base 1 (V j) (rows j).length (intsV (rows j))
  apart : ∀ i j, i < N → j < N → i ≠ j → ∀ g, (V i).ownBlock = some g → (V j).ownBlock ≠ some g
  low : R < base

theorem AhSt.cell {w : World} {R N base : Nat} {rows : Nat → List Nat} {V : Nat → Value} (h : AhSt w R N base rows V) {j : Nat} (hj : j < N) : w.cell? ⟨R, j, none⟩ = some (V j) ∧ w.frozen? ⟨R, j, none⟩ = false := by
  obtain ⟨C, h1, _, h3⟩ := h.outer
  exact ⟨(cell_of_row w R j C _ _ h1).trans (h3 j hj), frozen_of_row w R j C _ h1⟩

theorem AhSt.grow {w w' : World} {R N base : Nat} {rows : Nat → List Nat} {V : Nat → Value} (h : AhSt w R N base rows V) (hb : Below w.heap.size w w') : AhSt w' R N base rows V := by
  obtain ⟨C, h1, h2⟩ := h.outer
  exact ⟨⟨C, keep h1 hb, h2⟩, fun j hj => (h.row j hj).grow hb, h.apart, h.low⟩

theorem AhSt.made (w : World) (N : Nat) : AhSt (w.alloc (.cells (madeCells #[.slice none 0 0] N) 30)) w.heap.size N (w.heap.size + 1) (fun _ => []) (fun _ => .slice none 0 0) := by
  refine ⟨⟨_, heap_alloc_new _ _, by rw [size_madeCells], fun j hj => ?_⟩, fun j _ => Tail.nil _ _ _, fun i j _ _ _ g hg => by simp [Value.ownBlock] at hg, Nat.lt_succ_self _⟩
  unfold madeCells
  have e : (j % (#[Value.slice none 0 0] : Array Value).size) = 0 := Nat.mod_one j
  rw [Array.getElem?_map, Array.getElem?_range, if_pos hj, Option.map_some, e]
  rfl

/-- One row is appended to, and its slice is laid in its place. -/
theorem AhSt.put {w w' : World} {R N base : Nat} {rows rows' : Nat → List Nat} {V : Nat → Value} (h : AhSt w R N base rows V) {z : Nat} (hz : z < N) {v' : Value} (hg : w.grownBy w' (V z).ownBlock) (ht : Tail w' base 1 v' (rows' z).length (intsV (rows' z)))
    (hn : ∀ g, v'.ownBlock = some g → (V z).ownBlock = some g ∨ w.heap.size ≤ g) (hr : ∀ j, j ≠ z → rows' j = rows j) : AhSt (w'.setCell ⟨R, z, none⟩ v') R N base rows' (fun j => if j = z then v' else V j) := by
  obtain ⟨C, h1, h2, h3⟩ := h.outer
  have hRl := row_lt h1
  have hsz := hg.size
  have far : ∀ g, g < w.heap.size → (V z).ownBlock ≠ some g → w'.heap[g]? = w.heap[g]? := fun g h1 h2 => hg.block g h1 fun e => h2 e.symm
  have hRz : (V z).ownBlock ≠ some R := fun e => by have := ((h.row z hz).lt e).1; have := h.low; omega
  refine ⟨⟨C.setIfInBounds z v', heap_setCell_same _ _ _ _ _ _ ((far R hRl hRz).trans h1), by simp [h2], fun j hj => ?_⟩, fun j hj => ?_, fun i j hi hj hij g hgi => ?_, h.low⟩
  · rw [Array.getElem?_setIfInBounds]
    by_cases e : z = j
    · subst e; rw [if_pos rfl, if_pos (by omega), if_pos rfl]
    · rw [if_neg e, if_neg (fun q => e q.symm)]; exact h3 j hj
  · have stay : ∀ g, base ≤ g → (w'.setCell ⟨R, z, none⟩ v').heap[g]? = w'.heap[g]? := fun g hgb => Below.heap_setCell _ _ _ _ (show g ≠ R by have := h.low; omega)
    by_cases e : j = z
    · subst e
      simp only [if_pos]
      exact ht.kept (by rw [size_setCell]; exact Nat.le_refl _) fun g hg' => stay g (ht.lt hg').1
    · simp only [if_neg e, hr j e]
      refine (h.row j hj).kept (by rw [size_setCell]; exact hsz) fun g hg' => ?_
      have hl := (h.row j hj).lt hg'
      exact (stay g hl.1).trans (far g hl.2 fun q => h.apart z j hz hj (fun q => e q.symm) g q hg')
  · by_cases ei : i = z
    · subst ei
      have ej : ¬ j = i := fun q => hij q.symm
      simp only [if_pos, if_neg ej] at hgi ⊢
      rcases hn g hgi with q | q
      · exact h.apart i j hi hj hij g q
      · intro q2; have := ((h.row j hj).lt q2).2; omega
    · simp only [if_neg ei] at hgi
      by_cases ej : j = z
      · subst ej
        simp only [if_pos]
        intro q
        rcases hn g q with q2 | q2
        · exact h.apart i j hi hj hij g hgi q2
        · have := ((h.row i hi).lt hgi).2; omega
      · simp only [if_neg ej]; exact h.apart i j hi hj hij g hgi
end Go.Proofs.Ytegabkegbhglfaa


/- The program's ahead: for each mark those that fire to it. -/
namespace Go.Proofs.Ytegabkegbhglfaa
open Go.RowKit
set_option maxRecDepth 10000

theorem Try.info30a : (Try.prog.info? 30).map (fun i => (i.zero, i.size, i.bytes)) = some (some (.slice none 0 0), 1, 24) := by kernel_rfl

/-- How ahead ends. -/
def AhEnd (N : Nat) (ar : List (Nat × Nat × Nat)) (w : World) (e : Ending) (w' : World) : Prop :=
  ∃ R base V, e = .returned (.slice (some ⟨R, 0, none⟩) N N) ∧ w.heap.size ≤ R ∧ AhSt w' R N base (toL ar) V ∧ Below w.heap.size w w'

theorem fill_one (z : Int) : Instr.fill (fun i => some (i * 1, 1)) (Array.map (fun x => (Value.int IntKind.i64 0).cells[x % (Value.int IntKind.i64 0).cells.size]!) (Array.range (1 * 1))) [(0, Value.int IntKind.i64 z)] = some #[Value.int IntKind.i64 z] := by
  have e : Array.range (1 * 1) = #[0] := by decide
  rw [e]
  simp [Instr.fill, Value.cells]

theorem exec_build_one {o : Oper} {a : Act} {w : World} (x : Operand) (ho : o.op = .buildSlice 30 1 #[(0, x)]) (z : Int) (hx : a.eval x = .int .i64 z) :
    (execOp a.eval o).run Try.prog w = .ok (.value (.slice (some ⟨w.heap.size, 0, none⟩) 1 1)) (w.alloc (.cells #[.int .i64 z] 3)) := by
  obtain ⟨i0, hi, hz0, hz1, hz2⟩ := info_split Try.info3
  unfold execOp
  simp only [ho]
  simp only [List.map_toArray, List.map_cons, List.map_nil, hx]
  rw [Sem.run_bind, Go.run_buildSlice w 30 3 1 _ #[.int .i64 z] i0 _ Try.underlying30 hi hz0 (by rw [hz1]; decide) (by rw [hz1]; decide) ?_]
  · rfl
  · rw [hz1]; exact fill_one z

theorem intsV_snocU (xs : List Nat) (x : Nat) : intsV (xs ++ [x]) = intsV xs ++ [.int .i64 (x : Int)] := by simp [intsV]

set_option maxHeartbeats 2000000 in
theorem ahead_any (p : Int) (n BS mb G N B : Nat) (aa : Option Addr) (ac : Nat) (ar : List (Nat × Nat × Nat)) (w : World) (h : w.ownsRow B 49 3 (.slice aa ar.length ac) ar.length (arcsL ar)) (hN : N ≤ 400) (hlen : ar.length ≤ 9600) (har : ∀ a ∈ ar, a.1 < N ∧ a.2.2 < N) :
    Calls Try.prog 127 #[.agg (spV p n BS mb G N (.slice aa ar.length ac))] w fun e w' => AhEnd N ar w e w' := by
  obtain ⟨N2, hN2⟩ : ∃ n, Hid (ar.length = n) := ⟨_, rfl⟩
  have HAR := hide har
  rw [hN2.out] at h hlen ⊢
  obtain ⟨av, hav⟩ : ∃ av, Value.slice aa N2 ac = av := ⟨_, rfl⟩
  have hAl := below_al w (.cells (spV p n BS mb G N av) 102)
  have HV0 := hide (heap_alloc_new w (.cells (spV p n BS mb G N av) 102))
  have HO0 := hide (ownsRow_kept h fun g hg => hAl.block g (own_lt h hg).2)
  have HB0 := hide hAl
  have hmk := run_make_many (P := Try.prog) 24 30 _ 1 24 Try.underlying24 Try.info30a .i64 .i64 N (by omega) (by omega)
  simp only [Value.cells] at hmk
  obtain ⟨i0, hi, hz0, hz1, hz2⟩ := info_split Try.info3
  subst hav
  clear h hAl har
  go_enter Try.func127, Try.ntmps127
  go_upto_region 1 with fail
  generalize w.alloc (.cells (spV p n BS mb G N (.slice aa N2 ac)) 102) = v at *
  obtain ⟨⟨hc0, hc1, hc2, hc3, hc4⟩, _⟩ := cells5 HV0.out
  have HA1 := hide (AhSt.made v N)
  have HB1 := hide (below_al v (.cells (madeCells #[.slice none 0 0] N) 30))
  go_upto_region 2 with fail
  clear hmk hc0 hc1 hc2 hc3 hc4
  generalize v.alloc (.cells (madeCells #[.slice none 0 0] N) 30) = v1 at *
  obtain ⟨⟨hc0, hc1, hc2, hc3, hc4⟩, _⟩ := cells5 (keep HV0.out HB1.out)
  have hvs := HB0.out.size
  go_wp2_with fail
  clear hc0 hc1 hc2 hc3 hc4
  go_loopw [13] (fun i wr => ∃ (k : Nat) (V : Nat → Value), k ≤ N2 ∧ i = .int .i64 k ∧ Hid (Below v.heap.size v wr ∧ AhSt wr v.heap.size N (v.heap.size + 1) (toL (ar.take k)) V)) (fun i _ => N2 - (intOf i).toNat)
  case atStart => exact ⟨0, _, Nat.zero_le _, rfl, HB1.out, HA1.out⟩
  case round =>
    obtain ⟨k, V, hk, rfl, hbr⟩ := hrel
    by_cases hlt : k < N2
    rotate_left
    · have hk' : k = N2 := by omega
      have HE : Hid (AhSt wr v.heap.size N (v.heap.size + 1) (toL ar) V) := by have := hbr.out.2; rwa [hk', ← hN2.out, List.take_length] at this
      have HW := hide (HB0.out.trans (hbr.out.1.mono hvs))
      clear hbr hk
      subst hk'
      have hkk : ¬ (k : Int) < (k : Int) := by omega
      go_wp2_with fail
      go_ret
      exact ⟨_, _, V, rfl, hvs, HE.out, HW.out⟩
    obtain ⟨x, y, z, hxy, hmem⟩ := arc_get (show k < ar.length by rw [hN2.out]; exact hlt)
    obtain ⟨hxN, hzN⟩ : x < N ∧ z < N := HAR.out _ hmem
    obtain ⟨ga, hag, q0, q1, q2⟩ := arcs_at (ownsRow_kept HO0.out fun g' hg' => hbr.out.1.block g' (own_lt HO0.out hg').2) hlt hxy
    have hB2 := below_al wr (.cells #[.int .i64 (x : Int), .int .i64 (y : Int), .int .i64 (z : Int)] 49)
    have HBB := hide (hbr.out.1.trans (hB2.mono hbr.out.1.size))
    have HAH := hide (hbr.out.2.grow hB2)
    have HBX := hide (heap_alloc_new wr (.cells #[.int .i64 (x : Int), .int .i64 (y : Int), .int .i64 (z : Int)] 49))
    have hki : (k : Int) < (N2 : Int) := by omega
    have hk9 : (k : Int) ≤ 9600 := by omega
    have hzi : (z : Int) < (N : Int) := by omega
    have hz0i : (0 : Int) ≤ (z : Int) := by omega
    have HTL := hide (fun j => toL_take hxy j)
    have hlz : (toL (ar.take k) z).length ≤ 9600 := by have := toL_len (ar.take k) z; rw [List.length_take] at this; omega
    have HNB : Hid (∀ g, (V z).ownBlock = some g → g < wr.heap.size) := fun g hg => ((hbr.out.2.row z hzN).lt hg).2
    have hvb : v.heap.size < wr.heap.size := row_lt (hbr.out.2.outer.choose_spec.1)
    subst hag
    clear hbr hB2 hxy hmem
    go_upto_region 5 with fail
    clear q0 q1 q2
    generalize wr.alloc (.cells #[.int .i64 (x : Int), .int .i64 (y : Int), .int .i64 (z : Int)] 49) = w2 at *
    generalize wr.heap.size = bH at *
    have hdr := (Below.refl w2.heap.size w2).drew
    have HBB3 := hide (HBB.out.drew)
    have HAH3 := hide (HAH.out.grow hdr)
    have HBX3 := hide (keep HBX.out hdr)
    have HSW : Hid (∀ W, Below w2.drew.heap.size w2.drew W → W.cell? ⟨bH, 0, none⟩ = some (.int .i64 (x : Int)) ∧ W.cell? ⟨bH, 2, none⟩ = some (.int .i64 (z : Int))) := fun W hW => by
      have hk := keep HBX3.out hW
      exact ⟨(cell_of_row W bH 0 _ _ _ hk).trans rfl, (cell_of_row W bH 2 _ _ _ hk).trans rfl⟩
    refine wp_region_held_drew (S := fun W => W.cell? ⟨bH, 0, none⟩ = some (.int .i64 (x : Int)) ∧ W.cell? ⟨bH, 2, none⟩ = some (.int .i64 (z : Int))) (by kernel_rfl) (HSW.out _ (Below.refl _ _)) (fun hHeld => ?_)
    have hSv := HSW.out _ (Below.refl _ _)
    clear HBB HAH HBX hdr hHeld
    generalize w2.drew = w3 at *
    obtain ⟨va, vc, hvf⟩ := (HAH3.out.row z hzN).form
    refine take_yes (i := 0) (some 17) (.slice (some ⟨v.heap.size, 0, none⟩) N N) rfl rfl (by kernel_rfl) (by kernel_rfl) (by kernel_rfl) (fun _ _ _ h => h) (by rfl) ?_ (by assumption) ?_
    · intro W' hSw
      obtain ⟨hz0, hz2⟩ := hSw
      go_simp
    simp only [Act.put, List.setIfInBounds_toArray, List.set_cons_zero, List.set_cons_succ]
    refine take_yes (i := 1) (some 18) (.pointer (some ⟨bH, 2, none⟩)) rfl rfl (by kernel_rfl) (by kernel_rfl) (by kernel_rfl) (fun _ _ _ h => h) (by rfl) ?_ (by assumption) ?_
    · intro W' hSw
      obtain ⟨hz0, hz2⟩ := hSw
      go_simp
    simp only [Act.put, List.setIfInBounds_toArray, List.set_cons_zero, List.set_cons_succ]
    refine take_yes (i := 2) (some 19) (.int .i64 (z : Int)) rfl rfl (by kernel_rfl) (by kernel_rfl) (by kernel_rfl) (fun _ _ _ h => h) (by rfl) ?_ (by assumption) ?_
    · intro W' hSw
      obtain ⟨hz0, hz2⟩ := hSw
      go_simp
    simp only [Act.put, List.setIfInBounds_toArray, List.set_cons_zero, List.set_cons_succ]
    refine take_yes (i := 3) (some 20) (.slice (some ⟨v.heap.size, 0, none⟩) N N) rfl rfl (by kernel_rfl) (by kernel_rfl) (by kernel_rfl) (fun _ _ _ h => h) (by rfl) ?_ (by assumption) ?_
    · intro W' hSw
      obtain ⟨hz0, hz2⟩ := hSw
      go_simp
    simp only [Act.put, List.setIfInBounds_toArray, List.set_cons_zero, List.set_cons_succ]
    refine take_yes (i := 4) (some 21) (.pointer (some ⟨bH, 2, none⟩)) rfl rfl (by kernel_rfl) (by kernel_rfl) (by kernel_rfl) (fun _ _ _ h => h) (by rfl) ?_ (by assumption) ?_
    · intro W' hSw
      obtain ⟨hz0, hz2⟩ := hSw
      go_simp
    simp only [Act.put, List.setIfInBounds_toArray, List.set_cons_zero, List.set_cons_succ]
    refine take_yes (i := 5) (some 22) (.int .i64 (z : Int)) rfl rfl (by kernel_rfl) (by kernel_rfl) (by kernel_rfl) (fun _ _ _ h => h) (by rfl) ?_ (by assumption) ?_
    · intro W' hSw
      obtain ⟨hz0, hz2⟩ := hSw
      go_simp
    simp only [Act.put, List.setIfInBounds_toArray, List.set_cons_zero, List.set_cons_succ]
    refine take_yes (i := 6) (some 23) (.pointer (some ⟨v.heap.size, z, none⟩)) rfl rfl (by kernel_rfl) (by kernel_rfl) (by kernel_rfl) (fun _ _ _ h => h) (by rfl) ?_ (by assumption) ?_
    · intro W' hSw
      obtain ⟨hz0, hz2⟩ := hSw
      go_simp
    simp only [Act.put, List.setIfInBounds_toArray, List.set_cons_zero, List.set_cons_succ]
    refine take_yes (i := 8) (some 25) (.pointer (some ⟨bH, 0, none⟩)) rfl rfl (by kernel_rfl) (by kernel_rfl) (by kernel_rfl) (fun _ _ _ h => h) (by rfl) ?_ (by assumption) ?_
    · intro W' hSw
      obtain ⟨hz0, hz2⟩ := hSw
      go_simp
    simp only [Act.put, List.setIfInBounds_toArray, List.set_cons_zero, List.set_cons_succ]
    refine take_yes (i := 9) (some 26) (.int .i64 (x : Int)) rfl rfl (by kernel_rfl) (by kernel_rfl) (by kernel_rfl) (fun _ _ _ h => h) (by rfl) ?_ (by assumption) ?_
    · intro W' hSw
      obtain ⟨hz0, hz2⟩ := hSw
      go_simp
    simp only [Act.put, List.setIfInBounds_toArray, List.set_cons_zero, List.set_cons_succ]
    refine any_go [7, 10] (fun i => i + 17) (fun _ => []) (fun x y => Below x.heap.size x y) (fun _ W => Below w3.heap.size w3 W) (fun i u W => (i = 7 → u = V z) ∧ (i = 10 → ∃ g, u = .slice (some ⟨g, 0, none⟩) 1 1 ∧ W.heap[g]? = some (.cells #[.int .i64 (x : Int)] 3 (0, 0)))) (fuel := 3) ?_ (by decide) (fun i _ j _ h => by simpa using h) (by kernel_rfl) (by decide) (by kernel_rfl) (by kernel_rfl) (fun _ W hW => HSW.out W hW) ?_ (Below.refl _ _) ?_
    · rintro i u W W' ⟨h1, h2⟩ hb
      refine ⟨h1, fun e => ?_⟩
      obtain ⟨g, e1, e2⟩ := h2 e
      exact ⟨g, e1, keep e2 hb⟩
    · intro i hi2 Pd a zz W o ho hp hoth hdeps hb K hK
      simp only [List.mem_cons, List.not_mem_nil, or_false] at hi2
      rcases hi2 with rfl | rfl
      all_goals obtain rfl := Option.some.inj ho
      · have e1 := evalD (v := .pointer (some ⟨v.heap.size, z, none⟩)) ((hoth 23 (by decide)).trans rfl)
        have hc := ((HAH3.out.grow hb).cell hzN).1
        exact oper_val rfl (v := V z) (w' := W) (by go_simp) (hK _ _ ⟨fun _ => rfl, fun e => absurd e (by decide)⟩ (Below.refl _ _) hb)
      · have e1 : a.eval (.tmp 26) = .int .i64 (x : Int) := (hoth 26 (by decide)).trans rfl
        exact oper_val rfl (exec_build_one (.tmp 26) rfl (x : Int) e1) (hK _ _ ⟨fun e => absurd e (by decide), fun _ => ⟨_, rfl, heap_alloc_new _ _⟩⟩ (below_al W _) (hb.trans ((below_al W _).mono hb.size)))
    · intro u w4 hb4 hG
      have e7 := (hG 7 (by decide)).1 rfl
      obtain ⟨g10, e10, hg10⟩ := (hG 10 (by decide)).2 rfl
      have HAH4 := hide (HAH3.out.grow hb4)
      have HBB4 := hide (HBB3.out.trans (hb4.mono HBB3.out.size))
      have HBX4 := hide (keep HBX3.out hb4)
      have hbl4 : bH < w4.heap.size := row_lt HBX4.out
      clear hG HAH3 HBB3 HBX3 HSW hSv
      rw [hvf] at e7
      simp only [frmD, lstD, if_true, Act.put, List.setIfInBounds_toArray, List.set_cons_zero, List.set_cons_succ, e7, e10]
      obtain ⟨v', w5, hrun, r1, r2, r3⟩ := run_append_tail (P := Try.prog) (HAH4.out.row z hzN) 30 30 3 i0 _ 8 Try.underlying30 hi hz0 hz1 hz2 rfl (by decide) ⟨g10, 0, none⟩ 1 [.int .i64 (x : Int)] rfl (World.news_of_block hg10) (fun u hu => by simp at hu; subst hu; rfl) (by unfold maxLen; omega) (by omega) (by have := HBB4.out.size; have := row_lt (HAH4.out.outer.choose_spec.1); omega)
      have hne : ∀ g, (V z).ownBlock = some g → g ≠ bH ∧ g ≠ v.heap.size := fun g hg => ⟨by have := HNB.out g hg; omega, by have := ((HAH4.out.row z hzN).lt hg).1; omega⟩
      obtain ⟨C, hC, hCs, hCv⟩ := HAH4.out.outer
      have hC5 : w5.heap[v.heap.size]? = some (.cells C 30 (0, 0)) := (r2.block _ (row_lt hC) (fun e => (hne _ e.symm).2 rfl)).trans hC
      have hX5 := (r2.block _ hbl4 (fun e => (hne _ e.symm).1 rfl)).trans HBX4.out
      have hS5 : (fun W : World => W.cell? ⟨bH, 0, none⟩ = some (.int .i64 (x : Int)) ∧ W.cell? ⟨bH, 2, none⟩ = some (.int .i64 (z : Int))) w5 := ⟨(cell_of_row w5 bH 0 _ _ _ hX5).trans rfl, (cell_of_row w5 bH 2 _ _ _ hX5).trans rfl⟩
      obtain ⟨va2, vc2, hv2⟩ := r1.form
      have hP := HAH4.out.put hzN (rows' := toL (ar.take (k + 1))) r2 (v' := v') (by
        rw [HTL.out z, if_pos rfl, List.length_append, intsV_snocU]; exact r1) r3 (fun j hj => by rw [HTL.out j, if_neg (fun e => hj e.symm)])
      have hB5 := (HBB4.out.grown r2 HBB4.out.size (fun g hg => by have := ((HAH4.out.row z hzN).lt hg).1; omega)).setCell (p := ⟨v.heap.size, z, none⟩) (Nat.le_refl _) v'
      subst hv2
      have HP := hide hP
      have HB6 := hide hB5
      have hS6 : (fun W : World => W.cell? ⟨bH, 0, none⟩ = some (.int .i64 (x : Int)) ∧ W.cell? ⟨bH, 2, none⟩ = some (.int .i64 (z : Int))) (w5.setCell ⟨v.heap.size, z, none⟩ (.slice va2 ((toL (ar.take k) z).length + 1) vc2)) := by
        have hX6 : (w5.setCell ⟨v.heap.size, z, none⟩ (.slice va2 ((toL (ar.take k) z).length + 1) vc2)).heap[bH]? = _ := (Below.heap_setCell _ _ _ _ (show bH ≠ v.heap.size by omega)).trans hX5
        exact ⟨(cell_of_row _ bH 0 _ _ _ hX6).trans rfl, (cell_of_row _ bH 2 _ _ _ hX6).trans rfl⟩
      rw [hvf] at hrun
      refine wpAnyH_ready (rs := [11]) (by kernel_rfl) (by simp) (AllReadyH.cons rfl (fun K hK => ?_) AllReadyH.nil)
      rw [if_pos (by rfl)]
      refine oper_append (some 28) rfl (.tmp 24) (.tmp 27) 30 rfl _ _ _ rfl rfl hrun ?_
      refine hK.out _ _ hS5 (fun _ => ?_)
      clear hK K
      simp only [Act.put, List.setIfInBounds_toArray, List.set_cons_zero, List.set_cons_succ]
      refine take_yes (i := 12) (some 29) (.pointer (some ⟨v.heap.size, z, none⟩)) rfl rfl (by kernel_rfl) (by kernel_rfl) (by kernel_rfl) (fun _ _ _ h => h) (by rfl) ?_ (by assumption) ?_
      · intro W' hSw
        obtain ⟨hz0, hz2⟩ := hSw
        go_simp
      simp only [Act.put, List.setIfInBounds_toArray, List.set_cons_zero, List.set_cons_succ]
      refine store_one_next (i := 13) rfl rfl (by kernel_rfl) (by rfl) 30 _ _ rfl v.heap.size z va2 _ vc2 rfl rfl C 30 hC5 (by omega) (by kernel_rfl) hS6 (fun _ => ?_)
      refine wpAnyH_done (by kernel_rfl) ?_ _
      clear hS5 hS6 hC5 hX5 hC hCs hCv hP hB5 r1 r2 r3 hrun HAH4 HBB4 HBX4 HTL hne hlz hg10 hb4 e7
      generalize (toL (ar.take k) z).length + 1 = nn at *
      generalize w5.setCell ⟨v.heap.size, z, none⟩ (.slice va2 nn vc2) = w6 at *
      go_wp2_with fail
      go_roundw
      case rel => exact ⟨k + 1, _, by omega, by go_num, HB6.out, HP.out⟩
      case measure => simp [intOf]; omega
end Go.Proofs.Ytegabkegbhglfaa
