/- Contracts that the proof stands on, one behind the other. -/
import Derived.Test.YtdhnhpjcoeglmaaP24
import Derived.BigQuiet
import Derived.Deep.RegionHeld3
/- The nets drawn by walked: DrawStepBack, DrawExplore, DrawIsLive, DrawBoundOf, whatever the bytes; nothing that was there is written. -/
namespace Go.Proofs.Ytdhnhpjcoeglmaa
open Go.RowKit
set_option maxRecDepth 10000

/-- Behind walked, until the draw ends. -/
structure DrSt (w W : World) (B T bc R V : Nat) (ca : Option Addr) (cn cc p : Nat) (bs : List Int) (pl : Int) (ua : Option Addr) (k uc : Nat) (L : List (List Int)) (a : Option Addr) (n : Nat) (xs : List Int) : Prop where
  res : W.heap[R]? = some (.cells #[.int .i64 0, .slice none 0 0] 26 (0, 0))
  box : W.heap[V]? = some (.cells #[.int .i64 pl, .slice ua k uc] 26 (0, 0))
  stab : ∀ W', T ≤ W'.heap.size → (∀ q, B ≤ q → q < T → W'.heap[q]? = W.heap[q]?) → Lists W' ua (3 * k) L ∧ Row W' a n xs
  low : T ≤ W.heap.size
  cur : Cur W bc ca cn cc p
  byt : RowB W ca cn bs
  kept : Below w.heap.size w W

theorem DrSt.go {w W W' : World} {B T bc R V cn cc p p' k uc n : Nat} {ca ua a : Option Addr} {bs xs : List Int} {pl : Int} {L : List (List Int)} (h : DrSt w W B T bc R V ca cn cc p bs pl ua k uc L a n xs) (hk : Kept bc W.heap.size W W') (hc : Cur W' bc ca cn cc p') (hb : bc < B) (hR : R ≠ bc) (hV : V ≠ bc) (hw : w.heap.size ≤ bc) (hap : Apart ca cn bc) : DrSt w W' B T bc R V ca cn cc p' bs pl ua k uc L a n xs :=
  ⟨(hk.block R (row_lt h.res) hR).trans h.res, (hk.block V (row_lt h.box) hV).trans h.box, fun W2 h1 h2 => h.stab W2 h1 fun q hq1 hq2 => (h2 q hq1 hq2).trans (hk.block q (Nat.lt_of_lt_of_le hq2 h.low) (by omega)), Nat.le_trans h.low hk.size, hc, h.byt.kept hk hap, h.kept.trans ((hk.mono h.kept.size).below hw)⟩

/-- What a draw leaves stays while what lies from B to T stays. -/
def Stab (B : Nat) (w' : World) (ua : Option Addr) (k : Nat) (L : List (List Int)) (a : Option Addr) (n : Nat) (xs : List Int) : Prop :=
  ∀ W, w'.heap.size ≤ W.heap.size → (∀ q, B ≤ q → q < w'.heap.size → W.heap[q]? = w'.heap[q]?) → Lists W ua (3 * k) L ∧ Row W a n xs

theorem DrSt.done {w W : World} {B T bc R V cn cc p k uc n : Nat} {ca ua a : Option Addr} {bs xs : List Int} {pl : Int} {L : List (List Int)} (h : DrSt w W B T bc R V ca cn cc p bs pl ua k uc L a n xs) (hw : w.heap.size ≤ R) (hB : R < B) (D : Array Value) : Stab w.heap.size (W.setRow R D) ua k L a n xs ∧ Below w.heap.size w (W.setRow R D) := by
  have hz : (W.setRow R D).heap.size = W.heap.size := by simp [World.setRow]
  have hl := h.low
  refine ⟨fun W' h1 h2 => h.stab W' (by omega) fun q hq1 hq2 => (h2 q (by omega) (by omega)).trans (setRow_otherW _ (by omega) _), h.kept.os, h.kept.tape, h.kept.output, by rw [hz]; exact h.kept.size, fun q hq => (setRow_otherW _ (by omega) _).trans (h.kept.block q hq)⟩

set_option maxHeartbeats 400000 in
theorem budget_draw (bc : Nat) (ca : Option Addr) (cn cc p : Nat) (bs : List Int) (w : World) (h : Cur w bc ca cn cc p) (hr : RowB w ca cn bs) (hap : Apart ca cn bc) (hp : p ≤ 1000000) (hn : cn ≤ 1048576) :
    Calls Try.prog 114 #[.pointer (some ⟨bc, 0, none⟩)] w fun e w' => ∃ x : Int, e = .returned (.int .i64 x) ∧ (0 ≤ x ∧ x ≤ 401) ∧ Cur w' bc ca cn cc (p + 1) ∧ Kept bc w.heap.size w w' := by
  have hbc := h.lt
  have HB := hide ((Below.refl w.heap.size w).alloc (Nat.le_refl _) (.cells (cellsOf [1, 5, 20, 100, 100, 400, 401, 0]) 3))
  have HN := hide (among_any 8 8 (some ⟨w.heap.size, 0, none⟩) [1, 5, 20, 100, 100, 400, 401, 0] bc ca cn cc p bs (w.alloc (.cells (cellsOf [1, 5, 20, 100, 100, 400, 401, 0]) 3)) (h.below HB.out hbc) (hr.kept (Kept.of_below HB.out) hap) hp hn (by omega) (by omega)
    (row_new w _ 8 _ rfl rfl) (by intro _ x hx; obtain rfl := Option.some.inj hx; simp; omega))
  clear h hr
  go_enter Try.func114, Try.ntmps114
  go_wp2_with fail
  refine HN.out.mono ?_
  rintro e w1 ⟨x, rfl, hx, hcur, ho⟩
  have HC := hide hcur
  have HO := hide ho
  have hx2 : 0 ≤ x ∧ x ≤ 401 := by simp at hx; omega
  clear hcur ho hx
  go_wp2
  go_ret
  exact ⟨x, rfl, hx2, HC.out, (Kept.of_below HB.out).trans (Kept.of_only HO.out)⟩

theorem step_num (r r2 : Nat) (hr : r < 6) (hr2 : r2 < 12) : IntKind.i64.wrap ((r : Int) - IntKind.i64.wrap ((r2 : Int) / 11)) = (r : Int) - (r2 : Int) / 11 := by
  have e1 : IntKind.i64.wrap ((r2 : Int) / 11) = (r2 : Int) / 11 := by rw [IntKind.wrap_i64]; omega
  rw [e1, IntKind.wrap_i64]; omega

def SBDr (w : World) (e : Ending) (w' : World) : Prop :=
  ∃ (pl : Int) (ua : Option Addr) (k uc : Nat) (L : List (List Int)) (a : Option Addr) (n c : Nat) (xs : List Int) (t : Int), e = .returned (.tuple #[.agg #[.int .i64 pl, .slice ua k uc], .int .i64 t, .slice a n c]) ∧ (0 ≤ pl ∧ pl ≤ 17) ∧ k ≤ 61 ∧ sizeN k L ≤ 6400 ∧ n ≤ 60 ∧ Stab w.heap.size w' ua k L a n xs ∧ Below w.heap.size w w' ∧ (-1 ≤ t ∧ t ≤ 5)

def XpDr (w : World) (e : Ending) (w' : World) : Prop :=
  ∃ (pl : Int) (ua : Option Addr) (k uc : Nat) (L : List (List Int)) (a : Option Addr) (n c : Nat) (xs : List Int) (bg : Int), e = .returned (.tuple #[.agg #[.int .i64 pl, .slice ua k uc], .slice a n c, .int .i64 bg]) ∧ (0 ≤ pl ∧ pl ≤ 17) ∧ k ≤ 61 ∧ sizeN k L ≤ 6400 ∧ n ≤ 60 ∧ Stab w.heap.size w' ua k L a n xs ∧ Below w.heap.size w w' ∧ (0 ≤ bg ∧ bg ≤ 401)

set_option maxHeartbeats 2000000 in
theorem drawXp_any (ca : Option Addr) (cn cc : Nat) (bs : List Int) (w : World) (hr : RowB w ca cn bs) (hn : cn ≤ 1048576) :
    Calls Try.prog 46 #[.slice ca cn cc] w fun e w' => XpDr w e w' := by
  have hA := below_al w (.cells #[.int .i64 0, .slice none 0 0] 26)
  have hA2 := below_al (w.alloc (.cells #[.int .i64 0, .slice none 0 0] 26)) (.cells #[.slice ca cn cc, .int .i64 0, .int .u64 0] 75)
  have HB := hide (hA.trans (hA2.mono hA.size))
  have HR := hide (hr.below HB.out)
  have HAP : Hid (Apart ca cn (w.heap.size + 1)) := fun h0 y hy => by have := hr.far h0 y hy; omega
  have HC : Hid (Cur ((w.alloc (.cells #[.int .i64 0, .slice none 0 0] 26)).alloc (.cells #[.slice ca cn cc, .int .i64 0, .int .u64 0] 75)) (w.heap.size + 1) ca cn cc 0) := ⟨0, by have := heap_alloc_new (w.alloc (.cells #[.int .i64 0, .slice none 0 0] 26)) (.cells #[.slice ca cn cc, .int .i64 0, .int .u64 0] 75); simpa using this⟩
  have HRES : Hid (((w.alloc (.cells #[.int .i64 0, .slice none 0 0] 26)).alloc (.cells #[.slice ca cn cc, .int .i64 0, .int .u64 0] 75)).heap[w.heap.size]? = some (.cells #[.int .i64 0, .slice none 0 0] 26 (0, 0))) := by
    show ((w.alloc _).alloc _).heap[w.heap.size]? = _
    rw [hA2.block _ (by simp)]; exact heap_alloc_new _ _
  have HSZ : Hid (((w.alloc (.cells #[.int .i64 0, .slice none 0 0] 26)).alloc (.cells #[.slice ca cn cc, .int .i64 0, .int .u64 0] 75)).heap.size = w.heap.size + 2) := by show _ = _; simp
  clear hr hA hA2
  go_enter Try.func46, Try.ntmps46
  go_wp2_with fail
  generalize (w.alloc (.cells #[.int .i64 0, .slice none 0 0] 26)).alloc (.cells #[.slice ca cn cc, .int .i64 0, .int .u64 0] 75) = w2 at HB HR HC HRES HSZ ⊢
  generalize hbb : w.heap.size + 1 = bc at HAP HC HSZ ⊢
  refine (walked_draw bc ca cn cc 0 bs _ HC.out HR.out HAP.out (by omega) hn).mono ?_
  rintro e v1 ⟨pl, ua, k, uc, L, a, n, c, xs, p1, rfl, hpl, hk, hsz, hn60, hp1, hstab, hcur, hby, hkp⟩
  have hA := below_al v1 (.cells #[.int .i64 pl, .slice ua k uc] 26)
  have hz2 := HSZ.out
  have hz1 := hkp.size
  have hbl := hcur.lt
  obtain ⟨B, hB⟩ : ∃ B, B = w2.heap.size := ⟨_, rfl⟩
  have S1 : Hid (DrSt w (v1.alloc (.cells #[.int .i64 pl, .slice ua k uc] 26)) B v1.heap.size bc w.heap.size v1.heap.size ca cn cc p1 bs pl ua k uc L a n xs) :=
    ⟨(hA.block _ (by omega)).trans ((hkp.block _ (by omega) (by omega)).trans HRES.out), heap_alloc_new v1 _,
      fun W' h1 h2 => hstab W' h1 fun q hq1 hq2 => (h2 q (by omega) hq2).trans (hA.block q hq2), hA.size, hcur.below hA hbl, hby.kept (Kept.of_below (bc := bc) hA) HAP.out,
      (HB.out.trans ((hkp.mono HB.out.size).below (by omega))).trans (hA.mono (by omega))⟩
  have hbB : bc < B := by omega
  have hRb : w.heap.size ≠ bc := by omega
  have hVb : v1.heap.size ≠ bc := by omega
  have hwb : w.heap.size ≤ bc := by omega
  have hRB : w.heap.size < B := by omega
  have hVR : v1.heap.size ≠ w.heap.size := by omega
  clear HB HR HC HRES HSZ hstab hcur hby hkp hA hz2 hz1 hbl hB hbb
  go_wp2_with fail
  generalize v1.alloc (.cells #[.int .i64 pl, .slice ua k uc] 26) = W3 at S1 ⊢
  generalize v1.heap.size = V at *
  have S2 := hide (S1.out.go (Kept.of_below (bc := bc) (Below.refl _ W3).drew) (S1.out.cur.below (Below.refl _ W3).drew S1.out.cur.lt) hbB hRb hVb hwb HAP.out)
  clear S1
  refine wp_region_held_drew (S := (fun W : World => W.heap[V]? = some (.cells #[.int .i64 pl, .slice ua k uc] 26 (0, 0)))) (by kernel_rfl) S2.out.box (fun hHeld => ?_)
  have hSv : (fun W : World => W.heap[V]? = some (.cells #[.int .i64 pl, .slice ua k uc] 26 (0, 0))) W3.drew := S2.out.box
  clear hHeld
  generalize W3.drew = vd at *
  refine take_yes (i := 0) (some 16) (.agg #[.int .i64 pl, .slice ua k uc]) rfl rfl (by kernel_rfl) (by kernel_rfl) (by kernel_rfl) (fun _ _ _ h => h) (by rfl) ?_ (by assumption) ?_
  · intro W' hSw
    exact exec_load_rowW 26 _ rfl _ rfl 26 _ _ _ hSw Try.underlying26 rfl Try.size26w
  simp only [Act.put, List.setIfInBounds_toArray, List.set_cons_zero, List.set_cons_succ]
  refine take_yes (i := 1) (some 17) (.slice a n c) rfl rfl (by kernel_rfl) (by kernel_rfl) (by kernel_rfl) (fun _ _ _ h => h) (by rfl) ?_ (by assumption) ?_
  · intro W' hSw
    go_simp
  simp only [Act.put, List.setIfInBounds_toArray, List.set_cons_zero, List.set_cons_succ]
  refine take_yes (i := 2) (some 18) (.pointer (some ⟨bc, 0, none⟩)) rfl rfl (by kernel_rfl) (by kernel_rfl) (by kernel_rfl) (fun _ _ _ h => h) (by rfl) ?_ (by assumption) ?_
  · intro W' hSw
    go_simp
  simp only [Act.put, List.setIfInBounds_toArray, List.set_cons_zero, List.set_cons_succ]
  refine call_next (i := 3) (some 19) rfl rfl (by kernel_rfl) (by rfl) 114 _ _ _ rfl Try.func114 (by decide) rfl #[.pointer (some ⟨bc, 0, none⟩)] (mapw1 _ _ _ rfl) _ (budget_draw bc ca cn cc p1 bs _ S2.out.cur S2.out.byt HAP.out (by omega) hn) ?_
  rintro e v3 ⟨bg, rfl, hbg, hcur, hkp⟩
  have S3 := hide (S2.out.go hkp hcur hbB hRb hVb hwb HAP.out)
  clear S2 hSv hcur hkp
  refine ⟨_, rfl, S3.out.box, fun hSv => ?_⟩
  simp only [Act.put, List.setIfInBounds_toArray, List.set_cons_zero, List.set_cons_succ]
  have hg0 := S3.out.res
  have hnone : (#[.int .i64 pl, .slice ua k uc] : Array Value).all (·.oneCell') = true := by simp [Value.oneCell']
  have hS5 : (fun W : World => W.heap[V]? = some (.cells #[.int .i64 pl, .slice ua k uc] 26 (0, 0))) (v3.setRow w.heap.size #[.int .i64 pl, .slice ua k uc]) := (setRow_otherW _ hVR _).trans S3.out.box
  obtain ⟨hfl, hfb⟩ := S3.out.done (Nat.le_refl _) hRB #[.int .i64 pl, .slice ua k uc]
  have HE : Hid (XpDr w (.returned (.tuple #[.agg #[.int .i64 pl, .slice ua k uc], .slice a n c, .int .i64 bg])) (v3.setRow w.heap.size #[.int .i64 pl, .slice ua k uc])) := ⟨pl, ua, k, uc, L, a, n, c, xs, bg, rfl, hpl, hk, hsz, hn60, hfl, hfb, hbg⟩
  have hz5 := setRow_sameW hg0 #[.int .i64 pl, .slice ua k uc]
  have hy0 := cell_of_row _ w.heap.size 0 _ _ _ hz5
  have hy1 := cell_of_row _ w.heap.size 1 _ _ _ hz5
  simp at hy0 hy1
  clear hfl hfb hSv
  refine store_next (i := 4) rfl rfl (by kernel_rfl) (by rfl) 26 _ _ rfl w.heap.size #[.int .i64 pl, .slice ua k uc] rfl rfl 26 _ hg0 Try.size26w rfl hnone hS5 (fun _ => ?_)
  refine take_yes (i := 5) (some 3) (.slice a n c) rfl rfl (by kernel_rfl) (by kernel_rfl) (by kernel_rfl) (fun _ _ _ h => h) (by rfl) ?_ (by assumption) ?_
  · intro W' hSw
    go_simp
  simp only [Act.put, List.setIfInBounds_toArray, List.set_cons_zero, List.set_cons_succ]
  refine take_yes (i := 6) (some 4) (.int .i64 bg) rfl rfl (by kernel_rfl) (by kernel_rfl) (by kernel_rfl) (fun _ _ _ h => h) (by rfl) ?_ (by assumption) ?_
  · intro W' hSw
    go_simp
  simp only [Act.put, List.setIfInBounds_toArray, List.set_cons_zero, List.set_cons_succ]
  refine wpAnyH_done (by kernel_rfl) ?_ _
  go_wp2_with fail
  refine bodyPost_ret (v := .tuple #[.agg #[.int .i64 pl, .slice ua k uc], .slice a n c, .int .i64 bg]) (by simp [results, Try.results46, go_sem, hy0, hy1]) rfl ?_
  exact HE.out

def BoDr (w : World) (e : Ending) (w' : World) : Prop :=
  ∃ (pl : Int) (ua : Option Addr) (k uc : Nat) (L : List (List Int)) (a : Option Addr) (n c : Nat) (xs : List Int) (bg t : Int), e = .returned (.tuple #[.agg #[.int .i64 pl, .slice ua k uc], .slice a n c, .int .i64 bg, .int .i64 t]) ∧ (0 ≤ pl ∧ pl ≤ 17) ∧ k ≤ 61 ∧ sizeN k L ≤ 6400 ∧ n ≤ 60 ∧ Stab w.heap.size w' ua k L a n xs ∧ Below w.heap.size w w' ∧ (0 ≤ bg ∧ bg ≤ 401) ∧ (-1 ≤ t ∧ t ≤ 5)

end Go.Proofs.Ytdhnhpjcoeglmaa


/- l1Own of whatever list; pick of one. -/
namespace Go.Proofs.Ytdhnhpjcoeglmaa
open Go.RowKit
set_option maxRecDepth 10000

theorem run_append_none {P : Program} (w : World) (base : Nat) (t ty e : TypeId) (i : TypeInfo) (size : Nat) (ht : P.underlying t = some (.slice e)) (hi : P.info? e = some i)
    (v : Value) (n c : Nat) (xs : List Value) (hown : w.ownsRow base e size v n xs) :
    (Builtin.append_ #[t, t] ty #[v, .slice none 0 c]).run P w = .ok v w := by
  rcases hown.2 with ⟨rfl, rfl⟩ | ⟨g, cap, cur, rfl, _, _, hnc, _⟩
  · simp [Builtin.append_, run_underlying ht, sizeOf, typeInfo, hi, Builtin.lenOf, Builtin.firstCells]
  · simp [Builtin.append_, run_underlying ht, sizeOf, typeInfo, hi, Builtin.lenOf, Builtin.firstCells, hnc, storeCells]

/-- append, whatever is appended. -/
theorem wpList_append_any2 {P : Program} (w : World) {ops : Array Oper} {rest : List Oper} {o : Oper} {a : Act} {Q : Exit → Act → World → Prop} (hgd : o.guard = none) (s x : Operand) (t : TypeId)
    (ho : o.op = .call { callee := .builtin .append, args := #[s, x], argTypes := #[t, t] })
    (base : Nat) (e : TypeId) (i : TypeInfo) (z : Value) (size bytes : Nat) (ht : P.underlying t = some (.slice e)) (hi : P.info? e = some i) (hz : i.zero = some z)
    (hsize : i.size = size) (hby : i.bytes = bytes) (hzs : z.cells.size = size) (hsz : 0 < size)
    (v : Value) (n : Nat) (xs : List Value) (hs : a.eval s = v) (hown : w.ownsRow base e size v n xs)
    (ao : Option Addr) (m c : Nat) (news : List Value) (hx : a.eval x = .slice ao m c) (hl : news.length = m * size) (hnone : ao = none → m = 0)
    (hnews : ∀ ad, ao = some ad → ∀ j u, news[j]? = some u → w.cell? (ad.add j) = some u) (h1 : ∀ u ∈ news, u.oneCell' = true)
    (h63 : n + m ≤ maxLen) (hbytes : (n + m) * bytes ≤ 140737488355328) (hbase : base ≤ w.heap.size)
    (h : ∀ v' w', w'.ownsRow base e size v' (n + m) (xs ++ news) → w.grownBy w' v.ownBlock → wpList P ops Q rest (a.put o.dst v') w') : wpList P ops Q (o :: rest) a w := by
  cases ao with
  | some ad => exact wpList_append_own w hgd s x t ho base e i z size bytes ht hi hz hsize hby hzs hsz v n xs hs hown ad m c news hx hl (hnews ad rfl) h1 h63 hbytes hbase fun v' w' r1 r2 _ => h v' w' r1 r2
  | none =>
    obtain rfl := hnone rfl
    have hnews : news = [] := List.eq_nil_of_length_eq_zero (by simpa using hl)
    subst hnews
    refine wpList_plain hgd fun K hK' => ?_
    have hrun := run_append_none (P := P) w base t o.type e i size ht hi _ n c xs hown
    unfold Oper.wp
    simp [execOp, ho, resolve, invoke, builtin, hs, hx, hrun, Result.andThen]
    exact hK' _ _ (by simpa using h v w (by simpa using hown) (World.grownBy.refl _ _))

theorem Row.some_of {w : World} {a : Option Addr} {n : Nat} {xs : List Int} (h : Row w a n xs) : ∀ ad, a = some ad → ∀ j u, (xs.map (Value.int .i64))[j]? = some u → w.cell? (ad.add j) = some u := by
  have := cells_upto h (Nat.le_refl n)
  rw [List.take_of_length_le (by have := h.1; omega)] at this
  exact this

set_option maxHeartbeats 400000 in
theorem own3_any (a : Option Addr) (n c : Nat) (xs : List Int) (w : World) (ha : Row w a n xs) (hn : n ≤ 1048576) :
    Calls Try.prog 67 #[.slice a n c] w fun e w' => ∃ a' c', e = .returned (.slice a' n c') ∧ Row w' a' n xs ∧ (0 < n → ∀ x, a' = some x → w.heap.size ≤ x.block) ∧ Below w.heap.size w w' := by
  obtain ⟨i0, hi, hz0, hz1, hz2⟩ := info_split Try.info3
  have P0 := hide (PutSt.first w)
  have HA := hide (ha.below P0.out.bel)
  have HL := hide ha.1
  clear ha
  go_enter Try.func67, Try.ntmps67
  go_wp2_with (at_builtin; refine wpList_append_any2 _ rfl (.tmp 3) (.tmp 4) 31 rfl w.heap.size 3 i0 (.int .i64 0) 1 8 Try.underlying31 hi hz0 hz1 hz2 rfl (by decide) (.slice (some ⟨w.heap.size, 0, none⟩) 0 0) 0 [] rfl P0.out.own a n c (xs.map (Value.int .i64)) rfl (by rw [List.length_map, Nat.mul_one]; exact HL.out) (fun h => by (rcases HA.out.2 with h0 | ⟨b, off, e, _⟩; exact h0; rw [h] at e; cases e)) HA.out.some_of (ints_oneCell _ _) (by unfold maxLen; omega) (by omega) (by simp) ?_; intro u1 W1 r1 r2; have P1 := hide (P0.out.step (q := n) (zs := xs) r1 r2); clear r1 r2)
  go_ret
  have P2 := P1.out
  rw [Nat.zero_add, List.nil_append] at P2
  have hlt := P2.own.lt
  obtain ⟨a', c', rfl, hr⟩ := ownsRow_row2 P2.own
  exact ⟨a', c', rfl, hr, fun _ x hx => by subst hx; exact (hlt x.block rfl).1, P2.bel⟩

set_option maxHeartbeats 400000 in
theorem pickS_any (m : Nat) (bc : Nat) (ca : Option Addr) (cn cc p : Nat) (bs : List Int) (w : World) (h : Cur w bc ca cn cc p) (hr : RowB w ca cn bs) (hp : p ≤ 1000000) (hn : cn ≤ 1048576) (h1 : 1 ≤ m) (h200 : m ≤ 200) :
    Calls Try.prog 71 #[.pointer (some ⟨bc, 0, none⟩), .int .i64 (m : Int)] w fun e w' => ∃ r p' : Nat, e = .returned (.int .i64 (r : Int)) ∧ r < m ∧ p' ≤ p + 1 ∧ Cur w' bc ca cn cc p' ∧ OnlyC bc w w' := by
  by_cases h2 : 2 ≤ m
  · refine (pick_any m bc ca cn cc p bs w h hr hp hn h2 h200).mono ?_
    rintro e w' ⟨r, e1, hr, hc, ho⟩
    exact ⟨r, p + 1, e1, hr, Nat.le_refl _, hc, ho⟩
  · obtain rfl : m = 1 := by omega
    have HC := hide h
    clear h hr
    go_enter Try.func71, Try.ntmps71
    go_wp2_with fail
    go_ret
    exact ⟨0, p, rfl, by omega, by omega, HC.out, OnlyC.refl _ _⟩
end Go.Proofs.Ytdhnhpjcoeglmaa


/- The specification's Fire once more, with where its answer lies. -/
namespace Go.Proofs.Ytdhnhpjcoeglmaa
open Go.RowKit
set_option maxRecDepth 10000

/-- A list in new memory and a bool; nothing that was there is written. -/
def RNew (g : Bool) (r : List Int) (w : World) (e : Ending) (w' : World) : Prop := ∃ a n c, e = .returned (.tuple #[.slice a n c, .bool g]) ∧ Row w' a n r ∧ (0 < n → ∀ x, a = some x → w.heap.size ≤ x.block) ∧ Below w.heap.size w w'

theorem rnew_no {p : Int} {n : Nat} {L : List (List Int)} {ys : List Int} {t : Int} {w w' : World} (h : fireOk p n L ys t = false) (hb : Below w.heap.size w w') : RNew (fireOk p n L ys t) (fireR p n L ys t) w (.returned (.tuple #[.slice none 0 0, .bool false])) w' := by
  refine ⟨none, 0, 0, by rw [h], ⟨?_, .inl rfl⟩, fun h0 => absurd h0 (by omega), hb⟩
  unfold fireR; rw [h]; rfl

theorem rnew_yes {p : Int} {n : Nat} {L : List (List Int)} {ys : List Int} {t : Int} {w w' : World} {g m c : Nat} (h : fireOk p n L ys t = true) (hr : Row w' (some ⟨g, 0, none⟩) m (firedL L ys t)) (hg : w.heap.size ≤ g) (hb : Below w.heap.size w w') : RNew (fireOk p n L ys t) (fireR p n L ys t) w (.returned (.tuple #[.slice (some ⟨g, 0, none⟩) m c, .bool true])) w' := by
  refine ⟨_, m, c, by rw [h], ?_, fun _ x hx => by obtain rfl := Option.some.inj hx; exact hg, hb⟩
  unfold fireR; rw [h]; exact hr

set_option maxHeartbeats 2000000 in
theorem specFireN_any (p : Int) (a am : Option Addr) (n c nm cm : Nat) (L : List (List Int)) (ys : List Int) (t : Int) (w : World) (h : Lists w a (3 * n) L) (rm : Row w am nm ys) (hs : sizeN n L ≤ 1048576) (hnm : nm ≤ 1048576) :
    Calls Try.prog 166 #[.agg #[.int .i64 p, .slice a n c], .slice am nm cm, .int .i64 t] w fun e w' => RNew (fireOk p n L ys t) (fireR p n L ys t) w e w' := by
  have hAl := below_al w (.cells #[.int .i64 p, .slice a n c] 26)
  have PAR := hide (heap_alloc_new w (.cells #[.int .i64 p, .slice a n c] 26))
  have HG := hide (marked_any p a am n c nm cm L ys _ (h.below hAl) (rm.below hAl) hs hnm)
  have HL := hide (h.below hAl)
  have RM := hide (rm.below hAl)
  have HB0 := hide hAl
  clear h rm hAl
  have hs' : n + sizeL L ≤ 1048576 := hs
  go_enter Try.func166, Try.ntmps166
  go_wp2_with fail
  generalize w.alloc (.cells #[.int .i64 p, .slice a n c] 26) = v at *
  refine HG.out.mono ?_
  rintro e w1 ⟨rfl, hb⟩
  have PAR1 := hide (keep PAR.out hb)
  have HL1 := hide (HL.out.below hb)
  have RM1 := hide (RM.out.below hb)
  have HB1 := hide (HB0.out.trans (hb.mono HB0.out.size))
  obtain ⟨hc0, hc1⟩ := cells2 PAR1.out
  clear HG PAR HL RM HB0 hb v
  by_cases g1 : (netOk p n L && goodB p ys) = true
  rotate_left
  · have g1' : (netOk p n L && goodB p ys) = false := by simpa using g1
    have HN := hide (rnew_no (w := w) (fireOk_no1 (t := t) g1') HB1.out)
    rw [g1']
    clear g1 g1'
    go_wp2_with fail
    go_ret2
    exact HN.out
  rw [g1]
  have HG1 := hide g1
  have hgg := g1
  rw [Bool.and_eq_true] at hgg
  have hn24 := netOkN hgg.1
  obtain ⟨⟨hp1, hp2⟩, hyl, hyb⟩ := goodB_parts hgg.2
  have hlm := RM1.out.1
  have HNET := hide hgg.1
  clear g1 hgg
  by_cases g2 : inB t 0 ((n : Int) - 1) = true
  rotate_left
  · have g2' : inB t 0 ((n : Int) - 1) = false := by simpa using g2
    have HN := hide (rnew_no (w := w) (fireOk_no2 (p := p) (L := L) (ys := ys) g2') HB1.out)
    clear g2
    go_wp2_with (go_at_call 74; refine (in_any _ _ _ _).mono ?_; rintro e w' ⟨rfl, rfl⟩)
    go_ret2
    exact HN.out
  have ht : 0 ≤ t ∧ t ≤ (n : Int) - 1 := by simpa [inB] using g2
  have HG2 := hide g2
  obtain ⟨k, rfl⟩ : ∃ k : Nat, t = (k : Int) := ⟨t.toNat, by omega⟩
  have hkn : k < n := by omega
  have hkn' : (k : Int) < (n : Int) := by omega
  have hk0 : (0 : Int) ≤ (k : Int) := by omega
  obtain ⟨b, off, a0, n0, e0, a1, n1, e1, a2, n2, e2, rfl, hb, hr, m0, m1, m2, r0, r1, r2⟩ := HL1.out.tri hkn
  obtain ⟨hd0, hd1, hd2⟩ := rangeAt_cells3 hr
  have htri := tri_rise (triOkOf HNET.out hkn)
  obtain ⟨x0, hx0⟩ : ∃ x, Hid (L.getD (3 * k) [] = x) := ⟨_, rfl⟩
  obtain ⟨x1, hx1⟩ : ∃ x, Hid (L.getD (3 * k + 1) [] = x) := ⟨_, rfl⟩
  obtain ⟨x2, hx2⟩ : ∃ x, Hid (L.getD (3 * k + 2) [] = x) := ⟨_, rfl⟩
  have hl0 := len_le L (3 * k)
  have hl1 := len_le L (3 * k + 1)
  have hl2 := len_le L (3 * k + 2)
  rw [hx0.out] at r0 hl0 htri
  rw [hx1.out] at r1 hl1 htri
  rw [hx2.out] at r2 hl2 htri
  have q0 : n0 ≤ 1048576 := by have := r0.1; omega
  have q1 : n1 ≤ 1048576 := by have := r1.1; omega
  have q2 : n2 ≤ 1048576 := by have := r2.1; omega
  have hnmp : (nm : Int) = p := by omega
  have RR := hide (And.intro r0 (And.intro r1 r2))
  have HTR := hide htri
  have HIN : Hid (∀ x ∈ x0, 0 ≤ x ∧ x < (nm : Int)) := fun x hx => by have := riseB_mem htri.1 x hx; omega
  have HI0 : Hid (inOf L (k : Int) = x0) := hx0.out
  have HF0 : Hid (firedL L ys (k : Int) = fireL x0 x1 x2 ys) := by show fireL _ _ _ _ = _; unfold inOf outOf resOf; rw [Int.toNat_natCast, hx0.out, hx1.out, hx2.out]
  have HC := hide (can_any a0 a1 a2 am n0 n1 n2 e0 e1 e2 nm cm x0 ys w1 r0 RM1.out q0 HIN.out)
  clear hr r0 r1 r2 hl0 hl1 hl2 htri m0 m1 m2 hx0 hx1 hx2
  obtain ⟨bm, om, rfl⟩ : ∃ bm om, am = some ⟨bm, om, none⟩ := by
    obtain ⟨bm, om, y, he, _⟩ := RM1.out.at (show 0 < nm by omega)
    exact ⟨bm, om, he⟩
  go_wp2_with (go_at_call 74; refine (in_any _ _ _ _).mono ?_; rintro e w' ⟨rfl, rfl⟩)
  refine HC.out.mono ?_
  rintro e w2 ⟨rfl, hb2⟩
  have PAR2 := hide (keep PAR1.out hb2)
  have HB2 := hide (HB1.out.trans (hb2.mono HB1.out.size))
  obtain ⟨hc0, hc1⟩ := cells2 PAR2.out
  by_cases g3 : canB x0 ys = true
  rotate_left
  · have g3' : canB x0 ys = false := by simpa using g3
    have HN := hide (rnew_no (w := w) (fireOk_no3 (p := p) (n := n) (L := L) (ys := ys) (t := (k : Int)) (by rw [HI0.out]; exact g3')) HB2.out)
    rw [g3']
    clear g3 g3' hb2
    go_wp2_with fail
    go_ret2
    exact HN.out
  rw [g3]
  have HG3 : Hid (canB (inOf L (k : Int)) ys = true) := by show _ = _; rw [HI0.out]; exact g3
  obtain ⟨_, _, f0, u0, i0, f1, u1, i1, f2, u2, i2, he, _, hr2, _, _, _, _, _, _⟩ := (HL1.out.below hb2).tri hkn
  have hq0 := hb2.cell (p := ⟨b, off + k * 3, none⟩) hb
  have hq1 := hb2.cell (p := ⟨b, off + k * 3 + 1, none⟩) hb
  have hq2 := hb2.cell (p := ⟨b, off + k * 3 + 2, none⟩) hb
  rw [hd0] at hq0
  rw [hd1] at hq1
  rw [hd2] at hq2
  have HFI := hide (fireS_any a0 a1 a2 n0 n1 n2 e0 e1 e2 nm bm om cm x0 x1 x2 ys w2 (RR.out.1.below hb2) (RR.out.2.1.below hb2) (RR.out.2.2.below hb2) (RM1.out.below hb2) q0 q1 q2 (by omega) (by rw [hnmp]; exact HTR.out.1) (by rw [hnmp]; exact HTR.out.2.1) (by rw [hnmp]; exact HTR.out.2.2) hyb)
  clear g3 hr2 he hb2 hd0 hd1 hd2 HC
  go_wp2_with fail
  refine HFI.out.mono ?_
  rintro e w3 ⟨g, cg, rfl, hg, hout, hb3⟩
  have PAR3 := hide (keep PAR2.out hb3)
  have HB3 := hide (HB2.out.trans (hb3.mono HB2.out.size))
  obtain ⟨hc0, hc1⟩ := cells2 PAR3.out
  have HM := hide (goodS_any p (some ⟨g, 0, none⟩) nm cg (fireL x0 x1 x2 ys) w3 hout.row hnm)
  have HOUT := hide hout.row
  clear hb3 hq0 hq1 hq2 HFI hout
  go_wp2_with fail
  refine HM.out.mono ?_
  rintro e w4 ⟨rfl, rfl⟩
  by_cases g4 : goodB p (fireL x0 x1 x2 ys) = true
  rotate_left
  · have g4' : goodB p (fireL x0 x1 x2 ys) = false := by simpa using g4
    have HN := hide (rnew_no (w := w) (fireOk_no4 (p := p) (n := n) (L := L) (ys := ys) (t := (k : Int)) (by rw [HF0.out]; exact g4')) HB3.out)
    rw [g4']
    clear g4 g4'
    go_wp2_with fail
    go_ret2
    exact HN.out
  have HY : Hid (RNew (fireOk p n L ys (k : Int)) (fireR p n L ys (k : Int)) w (.returned (.tuple #[.slice (some ⟨g, 0, none⟩) nm cg, .bool true])) w4) :=
    rnew_yes (fireOk_yes HG1.out HG2.out HG3.out (by rw [HF0.out]; exact g4)) (by rw [HF0.out]; exact HOUT.out) (Nat.le_trans HB2.out.size hg) HB3.out
  rw [g4]
  clear g4
  go_wp2_with fail
  go_ret2
  exact HY.out
end Go.Proofs.Ytdhnhpjcoeglmaa


/- The specification's Enabled once more, with where its answer lies. -/
namespace Go.Proofs.Ytdhnhpjcoeglmaa
open Go.RowKit
set_option maxRecDepth 10000

set_option maxHeartbeats 1000000 in
theorem enabledN_any (p : Int) (a am : Option Addr) (n c nm cm : Nat) (L : List (List Int)) (ys : List Int) (w : World) (h : Lists w a (3 * n) L) (rm : Row w am nm ys) (hs : sizeN n L ≤ 1048576) (hnm : nm ≤ 1048576) :
    Calls Try.prog 165 #[.agg #[.int .i64 p, .slice a n c], .slice am nm cm] w fun e w' => RNew (enOk p n L ys) (enR p n L ys) w e w' := by
  have hAl := below_al w (.cells #[.int .i64 p, .slice a n c] 26)
  have PAR := hide (heap_alloc_new w (.cells #[.int .i64 p, .slice a n c] 26))
  have HG := hide (marked_any p a am n c nm cm L ys _ (h.below hAl) (rm.below hAl) hs hnm)
  have HL := hide h
  have RM := hide rm
  have HB0 := hide hAl
  clear h rm hAl
  go_enter Try.func165, Try.ntmps165
  go_wp2_with fail
  refine HG.out.mono ?_
  rintro e w1 ⟨rfl, hb⟩
  have HB1 := hide (HB0.out.trans (hb.mono HB0.out.size))
  have PAR1 := hide (keep PAR.out hb)
  obtain ⟨hc0, hc1⟩ := cells2 PAR1.out
  clear HG HB0 PAR hb
  by_cases g1 : (netOk p n L && goodB p ys) = true
  rotate_left
  · have g1' : (netOk p n L && goodB p ys) = false := by simpa using g1
    have g1'' : enOk p n L ys = false := g1'
    have HN : Hid (RNew (enOk p n L ys) (enR p n L ys) w (.returned (.tuple #[.slice none 0 0, .bool false])) w1) :=
      ⟨none, 0, 0, by rw [g1''], ⟨by unfold enR; rw [g1'']; rfl, .inl rfl⟩, fun h0 => absurd h0 (by omega), HB1.out⟩
    rw [g1']
    clear g1 g1' g1''
    go_wp2_with fail
    go_ret2
    exact HN.out
  have hgg := g1
  rw [Bool.and_eq_true] at hgg
  have HOK : Hid (enOk p n L ys = true) := g1
  rw [g1]
  have hn24 := netOkN' hgg.1
  obtain ⟨hp, hyl, _⟩ := goodB_parts hgg.2
  have HIN : Hid (∀ k, k < n → ∀ x ∈ L.getD (3 * k) [], 0 ≤ x ∧ x < (nm : Int)) := fun k hk x hx => by
    have htri := tri_riseT (triOkT hgg.1 hk)
    have := riseB_mem htri.1 x hx
    have := RM.out.1
    omega
  clear g1 hgg
  go_wp2_with fail
  refine (enabledS_any _ _ _ _ _ _ _ L ys _ (HL.out.below HB1.out) (RM.out.below HB1.out) hs hn24 HIN.out).mono ?_
  rintro e w2 ⟨v, m, rfl, hown, hb⟩
  have hlt := hown.lt
  obtain ⟨av, cv, hv, hrow⟩ := own_row hown
  subst hv
  have HY : Hid (RNew (enOk p n L ys) (enR p n L ys) w (.returned (.tuple #[.slice av m cv, .bool true])) w2) :=
    ⟨av, m, cv, by rw [HOK.out], by unfold enR; rw [HOK.out]; exact hrow, fun _ x hx => by (subst hx; exact Nat.le_trans HB1.out.size (hlt x.block rfl).1), HB1.out.trans (hb.mono HB1.out.size)⟩
  clear hown hb hrow hlt
  go_wp2_with fail
  go_ret2
  exact HY.out
end Go.Proofs.Ytdhnhpjcoeglmaa


/- The cursor's metMark: a mark that is come to, or any. -/
namespace Go.Proofs.Ytdhnhpjcoeglmaa
open Go.RowKit
set_option maxRecDepth 10000

/-- While a mark is met: w: the world ahead. -/
structure MmSt (w v : World) (bc : Nat) (ca : Option Addr) (cn cc p : Nat) (bs : List Int) (aa : Option Addr) (an : Nat) (zs : List Int) : Prop where
  row : Row v aa an zs
  far : 0 < an → ∀ x, aa = some x → w.heap.size ≤ x.block
  cur : Cur v bc ca cn cc p
  byt : RowB v ca cn bs
  kept : Kept bc w.heap.size w v

section
variable {w v v' : World} {bc : Nat} {ca : Option Addr} {cn cc p p' : Nat} {bs : List Int} {aa : Option Addr} {an : Nat} {zs : List Int}

theorem MmSt.go (h : MmSt w v bc ca cn cc p bs aa an zs) (hk : Kept bc v.heap.size v v') (hc : Cur v' bc ca cn cc p') (hb : bc < w.heap.size) (hap : Apart ca cn bc) : MmSt w v' bc ca cn cc p' bs aa an zs :=
  ⟨h.row.far hk.size fun x h0 hx hl => hk.block _ hl (by have := h.far h0 x hx; omega), h.far, hc, h.byt.kept hk hap, h.kept.trans (hk.mono h.kept.size)⟩

theorem MmSt.grow (h : MmSt w v bc ca cn cc p bs aa an zs) (hk : Below v.heap.size v v') (hb : bc < w.heap.size) (hap : Apart ca cn bc) : MmSt w v' bc ca cn cc p bs aa an zs := h.go (Kept.of_below hk) (h.cur.below hk h.cur.lt) hb hap

theorem MmSt.turn {ab : Option Addr} {bn : Nat} {ys : List Int} (h : MmSt w v bc ca cn cc p bs aa an zs) (hk : Below v.heap.size v v') (hb : bc < w.heap.size) (hap : Apart ca cn bc) (hr : Row v' ab bn ys) (hn : 0 < bn → ∀ x, ab = some x → v.heap.size ≤ x.block) : MmSt w v' bc ca cn cc p bs ab bn ys := by
  have g := h.grow hk hb hap
  exact ⟨hr, fun h0 x hx => Nat.le_trans h.kept.size (hn h0 x hx), g.cur, g.byt, g.kept⟩
end

/-- How metMark ends. -/
def MmEnd (bc : Nat) (ca : Option Addr) (cn cc p : Nat) (bs : List Int) (w : World) (e : Ending) (w' : World) : Prop :=
  ∃ a n c xs p', e = .returned (.slice a n c) ∧ n ≤ 60 ∧ p' ≤ p + 200 ∧ Row w' a n xs ∧ (0 < n → ∀ x, a = some x → w.heap.size ≤ x.block) ∧ Cur w' bc ca cn cc p' ∧ RowB w' ca cn bs ∧ Kept bc w.heap.size w w'

theorem getD_atV {xs : List Int} {k : Nat} {x : Int} (h : xs[k]? = some x) : xs.getD k 0 = x := by rw [List.getD_eq_getElem?_getD, h]; rfl
theorem mapw3V (g : Operand → Value) (x y z : Operand) (a b c : Value) (h : g x = a) (h2 : g y = b) (h3 : g z = c) : (#[x, y, z] : Array Operand).map g = #[a, b, c] := by simp [h, h2, h3]

theorem enR_leV (p : Int) (n : Nat) (L : List (List Int)) (ys : List Int) : (enR p n L ys).length ≤ n := by
  unfold enR; split
  · unfold numsL; rw [List.length_map]; exact Nat.le_trans (List.length_filter_le _ _) (by simp)
  · exact Nat.zero_le _
theorem fireR_leV (p : Int) (n : Nat) (L : List (List Int)) (ys : List Int) (t : Int) : (fireR p n L ys t).length ≤ ys.length := by
  unfold fireR; split
  · unfold firedL fireL; rw [updL_len, updL_len, updL_len]; exact Nat.le_refl _
  · exact Nat.zero_le _

theorem keepO2V {W W' : World} {bc V : Nat} {v1 v2 : Value} (ho : OnlyC bc W W') (hV : V ≠ bc) (h : W.cell? ⟨V, 0, none⟩ = some v1 ∧ W.cell? ⟨V, 1, none⟩ = some v2) : W'.cell? ⟨V, 0, none⟩ = some v1 ∧ W'.cell? ⟨V, 1, none⟩ = some v2 :=
  ⟨(World.cell?_of_block (a := ⟨V, 0, none⟩) (ho.block V hV)).trans h.1, (World.cell?_of_block (a := ⟨V, 1, none⟩) (ho.block V hV)).trans h.2⟩
theorem keepB2V {W W' : World} {a1 a2 : Addr} {v1 v2 : Value} (hb : Below W.heap.size W W') (h : W.cell? a1 = some v1 ∧ W.cell? a2 = some v2) : W'.cell? a1 = some v1 ∧ W'.cell? a2 = some v2 :=
  ⟨(hb.cell (World.block_lt_of_cell? _ _ h.1)).trans h.1, (hb.cell (World.block_lt_of_cell? _ _ h.2)).trans h.2⟩

set_option maxHeartbeats 4000000 in
theorem metMark_draw (pl : Int) (ua : Option Addr) (k uc : Nat) (L : List (List Int)) (a : Option Addr) (n c : Nat) (xs : List Int) (bc : Nat) (ca : Option Addr) (cn cc p : Nat) (bs : List Int) (w : World) (h : Cur w bc ca cn cc p) (hr : RowB w ca cn bs) (hap : Apart ca cn bc) (hp : p ≤ 500000) (hn : cn ≤ 1048576) (hpl : 0 ≤ pl ∧ pl ≤ 17) (hk : k ≤ 61) (hsz : sizeN k L ≤ 6400) (hn60 : n ≤ 60)
    (hst : ∀ W, Kept bc w.heap.size w W → Lists W ua (3 * k) L ∧ Row W a n xs) :
    Calls Try.prog 129 #[.pointer (some ⟨bc, 0, none⟩), .agg #[.int .i64 pl, .slice ua k uc], .slice a n c] w fun e w' => MmEnd bc ca cn cc p bs w e w' := by
  have hA := below_al w (.cells #[.int .i64 pl, .slice ua k uc] 26)
  have hbw := h.lt
  have HBX := hide (heap_alloc_new w (.cells #[.int .i64 pl, .slice ua k uc] 26))
  have HK0 := hide (Kept.of_below (bc := bc) hA)
  have HC0 := hide (h.below hA h.lt)
  have HR0 := hide (hr.kept (Kept.of_below (bc := bc) hA) hap)
  have HAP := hide hap
  have HST := hide hst
  have hVb : w.heap.size ≠ bc := by omega
  clear h hr hap hst hA
  go_enter Try.func129, Try.ntmps129
  go_wp2_with fail
  generalize w.alloc (.cells #[.int .i64 pl, .slice ua k uc] 26) = v0 at *
  refine (own3_any a n c xs _ (HST.out _ HK0.out).2 (by omega)).mono ?_
  rintro e v1 ⟨aa, ca1, rfl, hra, hna, hb1⟩
  have hz0 := HK0.out.size
  have S1 : Hid (MmSt w v1 bc ca cn cc p bs aa n xs) := ⟨hra, fun h0 x hx => Nat.le_trans hz0 (hna h0 x hx), HC0.out.below hb1 HC0.out.lt, HR0.out.kept (Kept.of_below hb1) HAP.out, HK0.out.trans ((Kept.of_below hb1).mono hz0)⟩
  have HX1 := hide (keep HBX.out hb1)
  clear hra hna hb1 HK0 HC0 HR0 HBX hz0
  go_wp2_with fail
  refine (pick_any 6 bc ca cn cc p bs _ S1.out.cur S1.out.byt (by omega) hn (by omega) (by omega)).mono ?_
  rintro e v2 ⟨r, rfl, hr, hcur, ho⟩
  have S2 := hide (S1.out.go (Kept.of_only ho) hcur hbw HAP.out)
  have HX2 := hide ((ho.block _ hVb).trans HX1.out)
  clear hcur ho S1 HX1
  go_wp2_with fail
  go_loopw [7, 8] (fun t i wr => ∃ (m q : Nat) (ab : Option Addr) (bn bcp : Nat) (zs : List Int), i = .int .i64 (m : Int) ∧ m ≤ 6 ∧ q + m ≤ p + 7 ∧ bn ≤ 60 ∧ t = .slice ab bn bcp ∧ Hid (MmSt w wr bc ca cn cc q bs ab bn zs) ∧ Hid (wr.heap[w.heap.size]? = some (.cells #[.int .i64 pl, .slice ua k uc] 26 (0, 0)))) (fun _ i _ => (intOf i).toNat)
  case atStart => exact ⟨r, p + 1, aa, n, ca1, xs, rfl, by omega, by omega, hn60, rfl, S2, HX2⟩
  case round =>
    obtain ⟨m, q, ab, bn, bcp, zs, rfl, hm6, hq, hbn, rfl, T0, HX⟩ := hrel
    clear S2 HX2
    by_cases hlt : 0 < m
    rotate_left
    · have hnl : ¬ (0 : Int) < (m : Int) := by omega
      go_wp2_with fail
      refine (one_any 4 bc ca cn cc q bs _ T0.out.cur T0.out.byt (by omega) hn (by omega) (by omega)).mono ?_
      rintro e v3 ⟨b, rfl, hcur, ho⟩
      have T1 := hide (T0.out.go (Kept.of_only ho) hcur hbw HAP.out)
      have HX1 := hide ((ho.block _ hVb).trans HX.out)
      clear hcur ho T0 HX
      obtain ⟨hc0, hc1⟩ := cells2 HX1.out
      cases b
      · go_wp2_with fail
        go_ret
        exact ⟨_, _, _, _, _, rfl, hbn, by omega, T1.out.row, T1.out.far, T1.out.cur, T1.out.byt, T1.out.kept⟩
      · go_wp2_with fail
        refine (markOf_draw pl ua k uc bc ca cn cc (q + 1) bs _ T1.out.cur T1.out.byt HAP.out (by omega) hn hpl).mono ?_
        rintro e v4 ⟨b4, n4, d4, x4, p4, rfl, hn18, hp4, hrow, hnew, hc4, hb4, hk4⟩
        have HE : Hid (MmEnd bc ca cn cc p bs w (.returned (.slice b4 n4 d4)) v4) := ⟨b4, n4, d4, x4, p4, rfl, by omega, by omega, hrow, fun h0 x hx => Nat.le_trans T1.out.kept.size (hnew h0 x hx), hc4, hb4, T1.out.kept.trans (hk4.mono T1.out.kept.size)⟩
        clear hrow hnew hc4 hb4 hk4 T1 HX1 hc0 hc1
        go_wp2_with fail
        go_ret
        exact HE.out
    have hgo : (0 : Int) < (m : Int) := by omega
    obtain ⟨hc0, hc1⟩ := cells2 HX.out
    have hl0 := row_lt HX.out
    obtain ⟨ge, hge⟩ : ∃ g, Hid (enOk pl k L zs = g) := ⟨_, rfl⟩
    obtain ⟨re, hre⟩ : ∃ l, Hid (enR pl k L zs = l) := ⟨_, rfl⟩
    have HEN := hide (enR_leV pl k L zs)
    rw [hre.out] at HEN
    have HC := hide (enabledN_any pl ua ab k uc bn bcp L zs _ (HST.out _ T0.out.kept).1 T0.out.row (by omega) (by omega))
    rw [hge.out, hre.out] at HC
    go_wp2_with fail
    refine HC.out.mono ?_
    rintro e v9 ⟨ae, ne, ce, rfl, hrow, hnew, hb9⟩
    have hne5 : ne ≤ 61 := by have h1 := hrow.1; have h2 := HEN.out; omega
    have T1 := hide (T0.out.grow hb9 hbw HAP.out)
    have HX1 := hide (keep HX.out hb9)
    have RE := hide hrow
    have RN : Hid (0 < ne → ∀ x, ae = some x → x.block ≠ bc) := fun h0 x hx => by have := hnew h0 x hx; have := T0.out.cur.lt; omega
    clear hrow hnew hb9 T0 HC HX hc0 hc1 hl0
    cases ge
    · go_wp2_with fail
      go_roundw
      case rel => exact ⟨m - 1, q, ab, bn, bcp, zs, by go_num, by omega, by omega, hbn, rfl, T1, HX1⟩
      case measure => simp [intOf]; omega
    by_cases hne0 : 0 < ne
    rotate_left
    · have hnz : ne = 0 := by omega
      subst hnz
      go_wp2_with fail
      go_roundw
      case rel => exact ⟨m - 1, q, ab, bn, bcp, zs, by go_num, by omega, by omega, hbn, rfl, T1, HX1⟩
      case measure => simp [intOf]; omega
    have hne1 : (0 : Int) < (ne : Int) := by omega
    obtain ⟨hc0, hc1⟩ := cells2 HX1.out
    have hl0 := row_lt HX1.out
    obtain ⟨be, oe, _, rfl, _, _, _⟩ := RE.out.at hne0
    have RS := hide (fun (W : World) (hs : v9.heap.size ≤ W.heap.size) (hk : ∀ q, q ≠ bc → q < v9.heap.size → W.heap[q]? = v9.heap[q]?) => fun (j : Nat) (hj : j < ne) => show W.cell? ⟨be, oe + j, none⟩ = some (.int .i64 (re.getD j 0)) from by
      obtain ⟨b', o', y, e', hle, hce, hgy⟩ := (RE.out.far hs fun x h0 hx hl => hk _ (RN.out h0 x hx) hl).at hj
      cases e'
      rw [getD_atV hgy]; exact hce)
    go_wp2_with fail
    have T1d := hide (T1.out.grow (Below.refl _ v9).drew hbw HAP.out)
    have HX1d := hide (show v9.drew.heap[w.heap.size]? = some (.cells #[.int .i64 pl, .slice ua k uc] 26 (0, 0)) from HX1.out)
    have hSv : (fun W : World => W.heap[w.heap.size]? = some (.cells #[.int .i64 pl, .slice ua k uc] 26 (0, 0)) ∧ ∀ j, j < ne → W.cell? ⟨be, oe + j, none⟩ = some (.int .i64 (re.getD j 0))) v9.drew := ⟨HX1d.out, RS.out v9.drew (Nat.le_refl _) (fun _ _ _ => rfl)⟩
    refine wp_region_held_drew (S := (fun W : World => W.heap[w.heap.size]? = some (.cells #[.int .i64 pl, .slice ua k uc] 26 (0, 0)) ∧ ∀ j, j < ne → W.cell? ⟨be, oe + j, none⟩ = some (.int .i64 (re.getD j 0)))) (by kernel_rfl) ⟨HX1.out, RS.out v9 (Nat.le_refl _) (fun _ _ _ => rfl)⟩ (fun hHeld => ?_)
    clear hHeld
    have hd : v9.drew.heap.size = v9.heap.size := rfl
    have hdk : Hid (∀ q : Nat, v9.drew.heap[q]? = v9.heap[q]?) := fun _ => rfl
    generalize hvd : v9.drew = vd at *
    clear hvd T1 HX1 hc0 hc1 hl0
    refine take_yes (i := 0) (some 34) (.agg #[.int .i64 pl, .slice ua k uc]) rfl rfl (by kernel_rfl) (by kernel_rfl) (by kernel_rfl) (fun _ _ _ h => h) (by rfl) ?_ (by assumption) ?_
    · intro W' hSw
      exact exec_load_rowW 26 _ rfl _ rfl 26 _ _ _ hSw.1 Try.underlying26 rfl Try.size26w
    simp only [Act.put, List.setIfInBounds_toArray, List.set_cons_zero, List.set_cons_succ]
    refine take_yes (i := 1) (some 35) (.slice ab bn bcp) rfl rfl (by kernel_rfl) (by kernel_rfl) (by kernel_rfl) (fun _ _ _ h => h) (by rfl) ?_ (by assumption) ?_
    · intro W' hSw
      go_simp
    simp only [Act.put, List.setIfInBounds_toArray, List.set_cons_zero, List.set_cons_succ]
    refine take_yes (i := 2) (some 36) (.slice (some ⟨be, oe, none⟩) ne ce) rfl rfl (by kernel_rfl) (by kernel_rfl) (by kernel_rfl) (fun _ _ _ h => h) (by rfl) ?_ (by assumption) ?_
    · intro W' hSw
      go_simp
    simp only [Act.put, List.setIfInBounds_toArray, List.set_cons_zero, List.set_cons_succ]
    refine take_yes (i := 3) (some 37) (.pointer (some ⟨bc, 0, none⟩)) rfl rfl (by kernel_rfl) (by kernel_rfl) (by kernel_rfl) (fun _ _ _ h => h) (by rfl) ?_ (by assumption) ?_
    · intro W' hSw
      go_simp
    simp only [Act.put, List.setIfInBounds_toArray, List.set_cons_zero, List.set_cons_succ]
    refine take_yes (i := 4) (some 38) (.slice (some ⟨be, oe, none⟩) ne ce) rfl rfl (by kernel_rfl) (by kernel_rfl) (by kernel_rfl) (fun _ _ _ h => h) (by rfl) ?_ (by assumption) ?_
    · intro W' hSw
      go_simp
    simp only [Act.put, List.setIfInBounds_toArray, List.set_cons_zero, List.set_cons_succ]
    refine take_yes (i := 5) (some 39) (.int .i64 (ne : Int)) rfl rfl (by kernel_rfl) (by kernel_rfl) (by kernel_rfl) (fun _ _ _ h => h) (by rfl) ?_ (by assumption) ?_
    · intro W' hSw
      go_simp
    simp only [Act.put, List.setIfInBounds_toArray, List.set_cons_zero, List.set_cons_succ]
    refine call_next (i := 6) (some 40) rfl rfl (by kernel_rfl) (by rfl) 71 _ _ _ rfl Try.func71 (by decide) rfl #[.pointer (some ⟨bc, 0, none⟩), .int .i64 (ne : Int)] (mapw2 _ _ _ _ _ rfl rfl) _ (pickS_any ne bc ca cn cc q bs vd T1d.out.cur T1d.out.byt (by omega) hn (by omega) (by omega)) ?_
    rintro e v10 ⟨r10, q10, rfl, hr10, hq10, hcur, ho⟩
    have T2 := hide (T1d.out.go (Kept.of_only ho) hcur hbw HAP.out)
    have HX2 := hide ((ho.block _ hVb).trans HX1d.out)
    have hS2 := RS.out v10 (by have := ho.size; omega) (fun x hx _ => (ho.block x hx).trans (hdk.out x))
    clear T1d HX1d hSv ho hcur
    refine ⟨_, rfl, ⟨HX2.out, hS2⟩, fun hSv => ?_⟩
    simp only [Act.put, List.setIfInBounds_toArray, List.set_cons_zero, List.set_cons_succ]
    have hri : (r10 : Int) < (ne : Int) := by omega
    have hrp : (0 : Int) ≤ (r10 : Int) := by omega
    obtain ⟨y, hy⟩ : ∃ y, Hid (re.getD r10 0 = y) := ⟨_, rfl⟩
    refine take_yes (i := 7) (some 41) (.pointer (some ⟨be, oe + r10, none⟩)) rfl rfl (by kernel_rfl) (by kernel_rfl) (by kernel_rfl) (fun _ _ _ h => h) (by rfl) ?_ (by assumption) ?_
    · intro W' hSw
      go_simp
    simp only [Act.put, List.setIfInBounds_toArray, List.set_cons_zero, List.set_cons_succ]
    refine take_yes (i := 8) (some 42) (.int .i64 y) rfl rfl (by kernel_rfl) (by kernel_rfl) (by kernel_rfl) (fun _ _ _ h => h) (by rfl) ?_ (by assumption) ?_
    · intro W' hSw
      have hc9 := hSw.2 r10 hr10
      go_simp
      rw [← List.getD_eq_getElem?_getD]; exact hy.out
    simp only [Act.put, List.setIfInBounds_toArray, List.set_cons_zero, List.set_cons_succ]
    refine call_next (i := 9) (some 43) rfl rfl (by kernel_rfl) (by rfl) 166 _ _ _ rfl Try.func166 (by decide) rfl #[.agg #[.int .i64 pl, .slice ua k uc], .slice ab bn bcp, .int .i64 y] (mapw3V _ _ _ _ _ _ _ rfl rfl rfl) _ (specFireN_any pl ua ab k uc bn bcp L zs y v10 (HST.out _ T2.out.kept).1 T2.out.row (by omega) (by omega)) ?_
    rintro e v20 ⟨af, nf, cf, rfl, hrow, hnew, hb20⟩
    have T3 := hide (T2.out.grow hb20 hbw HAP.out)
    have T4 := hide (T2.out.turn hb20 hbw HAP.out hrow hnew)
    have HX3 := hide (keep HX2.out hb20)
    have hs20 := hb20.size
    have hS3 := RS.out v20
    have hnf : nf ≤ 60 := by have h1 := hrow.1; have h2 := fireR_leV pl k L zs y; have h3 := T2.out.row.1; omega
    have hS4 : (fun W : World => W.heap[w.heap.size]? = some (.cells #[.int .i64 pl, .slice ua k uc] 26 (0, 0)) ∧ ∀ j, j < ne → W.cell? ⟨be, oe + j, none⟩ = some (.int .i64 (re.getD j 0))) v20 := ⟨HX3.out, fun j hj => (hb20.cell (World.block_lt_of_cell? _ _ (hSv.2 j hj))).trans (hSv.2 j hj)⟩
    obtain ⟨gf, hgf⟩ : ∃ g, Hid (fireOk pl k L zs y = g) := ⟨_, rfl⟩
    rw [hgf.out]
    clear hrow hnew hb20 T2 HX2 hSv hS2 hS3
    refine ⟨_, rfl, hS4, fun hSv => ?_⟩
    simp only [Act.put, List.setIfInBounds_toArray, List.set_cons_zero, List.set_cons_succ]
    refine take_yes (i := 10) (some 33) (.tuple #[.slice af nf cf, .bool gf]) rfl rfl (by kernel_rfl) (by kernel_rfl) (by kernel_rfl) (fun _ _ _ h => h) (by rfl) ?_ (by assumption) ?_
    · intro W' hSw
      go_simp
    simp only [Act.put, List.setIfInBounds_toArray, List.set_cons_zero, List.set_cons_succ]
    refine take_yes (i := 11) (some 44) (.slice af nf cf) rfl rfl (by kernel_rfl) (by kernel_rfl) (by kernel_rfl) (fun _ _ _ h => h) (by rfl) ?_ (by assumption) ?_
    · intro W' hSw
      go_simp
    simp only [Act.put, List.setIfInBounds_toArray, List.set_cons_zero, List.set_cons_succ]
    refine take_yes (i := 12) (some 45) (.bool gf) rfl rfl (by kernel_rfl) (by kernel_rfl) (by kernel_rfl) (fun _ _ _ h => h) (by rfl) ?_ (by assumption) ?_
    · intro W' hSw
      go_simp
    simp only [Act.put, List.setIfInBounds_toArray, List.set_cons_zero, List.set_cons_succ]
    refine take_yes (i := 13) (some 11) (.slice af nf cf) rfl rfl (by kernel_rfl) (by kernel_rfl) (by kernel_rfl) (fun _ _ _ h => h) (by rfl) ?_ (by assumption) ?_
    · intro W' hSw
      go_simp
    simp only [Act.put, List.setIfInBounds_toArray, List.set_cons_zero, List.set_cons_succ]
    refine take_yes (i := 14) (some 12) (.bool gf) rfl rfl (by kernel_rfl) (by kernel_rfl) (by kernel_rfl) (fun _ _ _ h => h) (by rfl) ?_ (by assumption) ?_
    · intro W' hSw
      go_simp
    simp only [Act.put, List.setIfInBounds_toArray, List.set_cons_zero, List.set_cons_succ]
    refine wpAnyH_done (by kernel_rfl) ?_ _
    have hq10' : q10 ≤ q + 1 := hq10
    clear hSv hS4 RS RE RN hdk
    cases gf
    · go_wp2_with fail
      go_roundw
      case rel => exact ⟨m - 1, q10, ab, bn, bcp, zs, by go_num, by omega, by omega, hbn, rfl, T3, HX3⟩
      case measure => simp [intOf]; omega
    · go_wp2_with fail
      go_roundw
      case rel => exact ⟨m - 1, q10, af, nf, cf, _, by go_num, by omega, by omega, hnf, rfl, T4, HX3⟩
      case measure => simp [intOf]; omega
end Go.Proofs.Ytdhnhpjcoeglmaa


/- DrawWayTo, DrawIsHome: a net, a mark of it, a budget, a mark that is met or any; whatever the bytes. -/
namespace Go.Proofs.Ytdhnhpjcoeglmaa
open Go.RowKit
set_option maxRecDepth 10000

def WyDr (w : World) (e : Ending) (w' : World) : Prop :=
  ∃ (pl : Int) (ua : Option Addr) (k uc : Nat) (L : List (List Int)) (a : Option Addr) (n c : Nat) (xs : List Int) (bg : Int) (b : Option Addr) (m d : Nat) (zs : List Int), e = .returned (.tuple #[.agg #[.int .i64 pl, .slice ua k uc], .slice a n c, .int .i64 bg, .slice b m d]) ∧ (0 ≤ pl ∧ pl ≤ 17) ∧ k ≤ 61 ∧ sizeN k L ≤ 6400 ∧ n ≤ 60 ∧ m ≤ 60 ∧
    (∀ W, w'.heap.size ≤ W.heap.size → (∀ q, w.heap.size ≤ q → q < w'.heap.size → W.heap[q]? = w'.heap[q]?) → (Lists W ua (3 * k) L ∧ Row W a n xs) ∧ Row W b m zs) ∧ Below w.heap.size w w' ∧ (0 ≤ bg ∧ bg ≤ 401)

set_option maxHeartbeats 4000000 in
theorem drawWy_any (ca : Option Addr) (cn cc : Nat) (bs : List Int) (w : World) (hr : RowB w ca cn bs) (hn : cn ≤ 1048576) :
    Calls Try.prog 58 #[.slice ca cn cc] w fun e w' => WyDr w e w' := by
  have hA := below_al w (.cells #[.int .i64 0, .slice none 0 0] 26)
  have hA2 := below_al (w.alloc (.cells #[.int .i64 0, .slice none 0 0] 26)) (.cells #[.slice ca cn cc, .int .i64 0, .int .u64 0] 75)
  have HB := hide (hA.trans (hA2.mono hA.size))
  have HR := hide (hr.below HB.out)
  have HAP : Hid (Apart ca cn (w.heap.size + 1)) := fun h0 y hy => by have := hr.far h0 y hy; omega
  have HC : Hid (Cur ((w.alloc (.cells #[.int .i64 0, .slice none 0 0] 26)).alloc (.cells #[.slice ca cn cc, .int .i64 0, .int .u64 0] 75)) (w.heap.size + 1) ca cn cc 0) := ⟨0, by have := heap_alloc_new (w.alloc (.cells #[.int .i64 0, .slice none 0 0] 26)) (.cells #[.slice ca cn cc, .int .i64 0, .int .u64 0] 75); simpa using this⟩
  have HRES : Hid (((w.alloc (.cells #[.int .i64 0, .slice none 0 0] 26)).alloc (.cells #[.slice ca cn cc, .int .i64 0, .int .u64 0] 75)).heap[w.heap.size]? = some (.cells #[.int .i64 0, .slice none 0 0] 26 (0, 0))) := by
    show ((w.alloc _).alloc _).heap[w.heap.size]? = _
    rw [hA2.block _ (by simp)]; exact heap_alloc_new _ _
  have HSZ : Hid (((w.alloc (.cells #[.int .i64 0, .slice none 0 0] 26)).alloc (.cells #[.slice ca cn cc, .int .i64 0, .int .u64 0] 75)).heap.size = w.heap.size + 2) := by show _ = _; simp
  clear hr hA hA2
  go_enter Try.func58, Try.ntmps58
  go_wp2_with fail
  generalize (w.alloc (.cells #[.int .i64 0, .slice none 0 0] 26)).alloc (.cells #[.slice ca cn cc, .int .i64 0, .int .u64 0] 75) = w2 at HB HR HC HRES HSZ ⊢
  generalize hbb : w.heap.size + 1 = bc at HAP HC HSZ ⊢
  refine (walked_draw bc ca cn cc 0 bs _ HC.out HR.out HAP.out (by omega) hn).mono ?_
  rintro e v1 ⟨pl, ua, k, uc, L, a, n, c, xs, p1, rfl, hpl, hk, hsz, hn60, hp1, hstab, hcur, hby, hkp⟩
  have hA := below_al v1 (.cells #[.int .i64 pl, .slice ua k uc] 26)
  have hz2 := HSZ.out
  have hz1 := hkp.size
  have hbl := hcur.lt
  obtain ⟨B, hB⟩ : ∃ B, B = w2.heap.size := ⟨_, rfl⟩
  have S1 : Hid (DrSt w (v1.alloc (.cells #[.int .i64 pl, .slice ua k uc] 26)) B v1.heap.size bc w.heap.size v1.heap.size ca cn cc p1 bs pl ua k uc L a n xs) :=
    ⟨(hA.block _ (by omega)).trans ((hkp.block _ (by omega) (by omega)).trans HRES.out), heap_alloc_new v1 _,
      fun W' h1 h2 => hstab W' h1 fun q hq1 hq2 => (h2 q (by omega) hq2).trans (hA.block q hq2), hA.size, hcur.below hA hbl, hby.kept (Kept.of_below (bc := bc) hA) HAP.out,
      (HB.out.trans ((hkp.mono HB.out.size).below (by omega))).trans (hA.mono (by omega))⟩
  have hbB : bc < B := by omega
  have hRb : w.heap.size ≠ bc := by omega
  have hVb : v1.heap.size ≠ bc := by omega
  have hwb : w.heap.size ≤ bc := by omega
  have hRB : w.heap.size < B := by omega
  have hVR : v1.heap.size ≠ w.heap.size := by omega
  clear HB HR HC HRES HSZ hstab hcur hby hkp hA hz2 hz1 hbl hB hbb
  go_wp2_with fail
  generalize v1.alloc (.cells #[.int .i64 pl, .slice ua k uc] 26) = W3 at S1 ⊢
  generalize v1.heap.size = V at *
  refine (budget_draw bc ca cn cc p1 bs _ S1.out.cur S1.out.byt HAP.out (by omega) hn).mono ?_
  rintro e vb ⟨bg, rfl, hbg, hcur, hkp⟩
  have S1b := hide (S1.out.go hkp hcur hbB hRb hVb hwb HAP.out)
  clear S1 hcur hkp
  go_wp2_with fail
  have S2 := hide (S1b.out.go (Kept.of_below (bc := bc) (Below.refl _ vb).drew) (S1b.out.cur.below (Below.refl _ vb).drew S1b.out.cur.lt) hbB hRb hVb hwb HAP.out)
  clear S1b
  refine wp_region_held_drew (S := (fun W : World => W.heap[V]? = some (.cells #[.int .i64 pl, .slice ua k uc] 26 (0, 0)))) (by kernel_rfl) S2.out.box (fun hHeld => ?_)
  have hSv : (fun W : World => W.heap[V]? = some (.cells #[.int .i64 pl, .slice ua k uc] 26 (0, 0))) vb.drew := S2.out.box
  clear hHeld
  generalize vb.drew = vd at *
  refine take_yes (i := 0) (some 20) (.agg #[.int .i64 pl, .slice ua k uc]) rfl rfl (by kernel_rfl) (by kernel_rfl) (by kernel_rfl) (fun _ _ _ h => h) (by rfl) ?_ (by assumption) ?_
  · intro W' hSw
    exact exec_load_rowW 26 _ rfl _ rfl 26 _ _ _ hSw Try.underlying26 rfl Try.size26w
  simp only [Act.put, List.setIfInBounds_toArray, List.set_cons_zero, List.set_cons_succ]
  refine take_yes (i := 1) (some 21) (.slice a n c) rfl rfl (by kernel_rfl) (by kernel_rfl) (by kernel_rfl) (fun _ _ _ h => h) (by rfl) ?_ (by assumption) ?_
  · intro W' hSw
    go_simp
  simp only [Act.put, List.setIfInBounds_toArray, List.set_cons_zero, List.set_cons_succ]
  refine take_yes (i := 2) (some 22) (.int .i64 bg) rfl rfl (by kernel_rfl) (by kernel_rfl) (by kernel_rfl) (fun _ _ _ h => h) (by rfl) ?_ (by assumption) ?_
  · intro W' hSw
    go_simp
  simp only [Act.put, List.setIfInBounds_toArray, List.set_cons_zero, List.set_cons_succ]
  refine take_yes (i := 3) (some 23) (.pointer (some ⟨bc, 0, none⟩)) rfl rfl (by kernel_rfl) (by kernel_rfl) (by kernel_rfl) (fun _ _ _ h => h) (by rfl) ?_ (by assumption) ?_
  · intro W' hSw
    go_simp
  simp only [Act.put, List.setIfInBounds_toArray, List.set_cons_zero, List.set_cons_succ]
  refine take_yes (i := 4) (some 24) (.agg #[.int .i64 pl, .slice ua k uc]) rfl rfl (by kernel_rfl) (by kernel_rfl) (by kernel_rfl) (fun _ _ _ h => h) (by rfl) ?_ (by assumption) ?_
  · intro W' hSw
    exact exec_load_rowW 26 _ rfl _ rfl 26 _ _ _ hSw Try.underlying26 rfl Try.size26w
  simp only [Act.put, List.setIfInBounds_toArray, List.set_cons_zero, List.set_cons_succ]
  refine take_yes (i := 5) (some 25) (.slice a n c) rfl rfl (by kernel_rfl) (by kernel_rfl) (by kernel_rfl) (fun _ _ _ h => h) (by rfl) ?_ (by assumption) ?_
  · intro W' hSw
    go_simp
  simp only [Act.put, List.setIfInBounds_toArray, List.set_cons_zero, List.set_cons_succ]
  have HST := hide (fun (W : World) (hk2 : Kept bc vd.heap.size vd W) => S2.out.stab W (Nat.le_trans S2.out.low hk2.size) fun q hq1 hq2 => hk2.block q (Nat.lt_of_lt_of_le hq2 S2.out.low) (by omega))
  refine call_next (i := 6) (some 26) rfl rfl (by kernel_rfl) (by rfl) 129 _ _ _ rfl Try.func129 (by decide) rfl #[.pointer (some ⟨bc, 0, none⟩), .agg #[.int .i64 pl, .slice ua k uc], .slice a n c] (mapw3V _ _ _ _ _ _ _ rfl rfl rfl) _ (metMark_draw pl ua k uc L a n c xs bc ca cn cc (p1 + 1) bs vd S2.out.cur S2.out.byt HAP.out (by omega) hn hpl hk hsz hn60 HST.out) ?_
  rintro e v4 ⟨mb, mm, mc, zs, p4, rfl, hm60, hp4, hrow, hloc, hcur, hby, hkp⟩
  have S4 := hide (S2.out.go hkp hcur hbB hRb hVb hwb HAP.out)
  have HRW := hide hrow
  have HLC : Hid (0 < mm → ∀ o, mb = some o → w.heap.size + 1 ≤ o.block) := fun h0 o ho => by
    have h1 := hloc h0 o ho
    have h2 := row_lt S2.out.res
    omega
  clear S2 hSv hcur hkp hrow hloc hby HST
  refine ⟨_, rfl, S4.out.box, fun hSv => ?_⟩
  simp only [Act.put, List.setIfInBounds_toArray, List.set_cons_zero, List.set_cons_succ]
  have hg0 := S4.out.res
  have hnone : (#[.int .i64 pl, .slice ua k uc] : Array Value).all (·.oneCell') = true := by simp [Value.oneCell']
  have hS5 : (fun W : World => W.heap[V]? = some (.cells #[.int .i64 pl, .slice ua k uc] 26 (0, 0))) (v4.setRow w.heap.size #[.int .i64 pl, .slice ua k uc]) := (setRow_otherW _ hVR _).trans S4.out.box
  obtain ⟨hfl, hfb⟩ := S4.out.done (Nat.le_refl _) hRB #[.int .i64 pl, .slice ua k uc]
  have hszF : (v4.setRow w.heap.size #[.int .i64 pl, .slice ua k uc]).heap.size = v4.heap.size := by simp [World.setRow]
  have HE : Hid (WyDr w (.returned (.tuple #[.agg #[.int .i64 pl, .slice ua k uc], .slice a n c, .int .i64 bg, .slice mb mm mc])) (v4.setRow w.heap.size #[.int .i64 pl, .slice ua k uc])) := ⟨pl, ua, k, uc, L, a, n, c, xs, bg, mb, mm, mc, zs, rfl, hpl, hk, hsz, hn60, hm60, fun W h1 h2 => ⟨hfl W h1 h2, HRW.out.movedV HLC.out (by omega) fun q hq1 hq2 => (h2 q (by omega) (by omega)).trans (setRow_otherW _ (by omega) _)⟩, hfb, hbg⟩
  have hz5 := setRow_sameW hg0 #[.int .i64 pl, .slice ua k uc]
  have hy0 := cell_of_row _ w.heap.size 0 _ _ _ hz5
  have hy1 := cell_of_row _ w.heap.size 1 _ _ _ hz5
  simp at hy0 hy1
  clear hfl hfb hSv HRW HLC
  refine store_next (i := 7) rfl rfl (by kernel_rfl) (by rfl) 26 _ _ rfl w.heap.size #[.int .i64 pl, .slice ua k uc] rfl rfl 26 _ hg0 Try.size26w rfl hnone hS5 (fun _ => ?_)
  refine take_yes (i := 8) (some 3) (.slice a n c) rfl rfl (by kernel_rfl) (by kernel_rfl) (by kernel_rfl) (fun _ _ _ h => h) (by rfl) ?_ (by assumption) ?_
  · intro W' hSw
    go_simp
  simp only [Act.put, List.setIfInBounds_toArray, List.set_cons_zero, List.set_cons_succ]
  refine take_yes (i := 9) (some 4) (.int .i64 bg) rfl rfl (by kernel_rfl) (by kernel_rfl) (by kernel_rfl) (fun _ _ _ h => h) (by rfl) ?_ (by assumption) ?_
  · intro W' hSw
    go_simp
  simp only [Act.put, List.setIfInBounds_toArray, List.set_cons_zero, List.set_cons_succ]
  refine take_yes (i := 10) (some 5) (.slice mb mm mc) rfl rfl (by kernel_rfl) (by kernel_rfl) (by kernel_rfl) (fun _ _ _ h => h) (by rfl) ?_ (by assumption) ?_
  · intro W' hSw
    go_simp
  simp only [Act.put, List.setIfInBounds_toArray, List.set_cons_zero, List.set_cons_succ]
  refine wpAnyH_done (by kernel_rfl) ?_ _
  go_wp2_with fail
  refine bodyPost_ret (v := .tuple #[.agg #[.int .i64 pl, .slice ua k uc], .slice a n c, .int .i64 bg, .slice mb mm mc]) (by simp [results, Try.results58, go_sem, hy0, hy1]) rfl ?_
  exact HE.out

set_option maxHeartbeats 1000000 in
theorem drawIh_any (ca : Option Addr) (cn cc : Nat) (bs : List Int) (w : World) (hr : RowB w ca cn bs) (hn : cn ≤ 1048576) :
    Calls Try.prog 54 #[.slice ca cn cc] w fun e w' => WyDr w e w' := by
  have hA := below_al w (.cells #[.int .i64 0, .slice none 0 0] 26)
  have HB := hide hA
  have HR := hide (hr.below hA)
  have HRES := hide (heap_alloc_new w (.cells #[.int .i64 0, .slice none 0 0] 26))
  clear hr hA
  go_enter Try.func54, Try.ntmps54
  go_wp2_with fail
  refine (drawWy_any ca cn cc bs _ HR.out hn).mono ?_
  rintro e v1 ⟨pl, ua, k, uc, L, a, n, c, xs, bg, mb, mm, mc, zs, rfl, hpl, hk, hsz, hn60, hm60, hl, hb, hbg⟩
  have hz := HB.out.size
  have HR1 := hide ((hb.block _ (row_lt HRES.out)).trans HRES.out)
  have hr0 := cell_of_row v1 w.heap.size 0 _ _ _ HR1.out
  have hr1 := cell_of_row v1 w.heap.size 1 _ _ _ HR1.out
  have hf0 := frozen_of_row v1 w.heap.size 0 _ _ HR1.out
  have hf1 := frozen_of_row v1 w.heap.size 1 _ _ HR1.out
  simp at hr0 hr1
  have far : ∀ q, q ≠ w.heap.size → ((v1.setCell ⟨w.heap.size, 0, none⟩ (.int .i64 pl)).setCell ⟨w.heap.size, 1, none⟩ (.slice ua k uc)).heap[q]? = v1.heap[q]? := fun q hq => set2V_far (v := v1) hq (.int .i64 pl) (.slice ua k uc)
  obtain ⟨y0, y1⟩ := cells2 (set2V HR1.out (.int .i64 pl) (.slice ua k uc))
  have HL := hide hl
  have HB1 := hide hb
  clear hl hb HR
  go_wp2_with fail
  refine bodyPost_ret (v := .tuple #[.agg #[.int .i64 pl, .slice ua k uc], .slice a n c, .int .i64 bg, .slice mb mm mc]) (by simp [results, Try.results54, go_sem, y0, y1]) rfl ?_
  have hz2 : ((v1.setCell ⟨w.heap.size, 0, none⟩ (.int .i64 pl)).setCell ⟨w.heap.size, 1, none⟩ (.slice ua k uc)).heap.size = v1.heap.size := by simp only [sizeV]
  have hz3 : (w.alloc (.cells #[.int .i64 0, .slice none 0 0] 26)).heap.size = w.heap.size + 1 := by simp
  refine ⟨pl, ua, k, uc, L, a, n, c, xs, bg, mb, mm, mc, zs, rfl, hpl, hk, hsz, hn60, hm60, fun W' h1 h2 => HL.out W' (by omega) fun q hq1 hq2 => (h2 q (by omega) (by omega)).trans (far q (by omega)), ?_, hbg⟩
  have hq := HB.out.trans (HB1.out.mono hz)
  exact ⟨hq.os, hq.tape, hq.output, by rw [hz2]; exact hq.size, fun q hq1 => (far q (by omega)).trans (hq.block q hq1)⟩

end Go.Proofs.Ytdhnhpjcoeglmaa
