/- Contracts that the proof stands on, one behind the other. -/
import Derived.Test.YtdhnhpjcoeglmaaP25
/- The program's ahead: for each mark those that fire to it. -/
namespace Go.Proofs.Ytdhnhpjcoeglmaa
open Go.RowKit
set_option maxRecDepth 10000

theorem Try.info31a : (Try.prog.info? 31).map (fun i => (i.zero, i.size, i.bytes)) = some (some (.slice none 0 0), 1, 24) := by kernel_rfl

/-- How ahead ends. -/
def AhEnd (N : Nat) (ar : List (Nat × Nat × Nat)) (w : World) (e : Ending) (w' : World) : Prop :=
  ∃ R base V, e = .returned (.slice (some ⟨R, 0, none⟩) N N) ∧ w.heap.size ≤ R ∧ AhSt w' R N base (toL ar) V ∧ Below w.heap.size w w'

theorem fill_one (z : Int) : Instr.fill (fun i => some (i * 1, 1)) (Array.map (fun x => (Value.int IntKind.i64 0).cells[x % (Value.int IntKind.i64 0).cells.size]!) (Array.range (1 * 1))) [(0, Value.int IntKind.i64 z)] = some #[Value.int IntKind.i64 z] := by
  have e : Array.range (1 * 1) = #[0] := by decide
  rw [e]
  simp [Instr.fill, Value.cells]

theorem exec_build_one {o : Oper} {a : Act} {w : World} (x : Operand) (ho : o.op = .buildSlice 31 1 #[(0, x)]) (z : Int) (hx : a.eval x = .int .i64 z) :
    (execOp a.eval o).run Try.prog w = .ok (.value (.slice (some ⟨w.heap.size, 0, none⟩) 1 1)) (w.alloc (.cells #[.int .i64 z] 3)) := by
  obtain ⟨i0, hi, hz0, hz1, hz2⟩ := info_split Try.info3
  unfold execOp
  simp only [ho]
  simp only [List.map_toArray, List.map_cons, List.map_nil, hx]
  rw [Sem.run_bind, Go.run_buildSlice w 31 3 1 _ #[.int .i64 z] i0 _ Try.underlying31 hi hz0 (by rw [hz1]; decide) (by rw [hz1]; decide) ?_]
  · rfl
  · rw [hz1]; exact fill_one z

theorem intsV_snocU (xs : List Nat) (x : Nat) : intsV (xs ++ [x]) = intsV xs ++ [.int .i64 (x : Int)] := by simp [intsV]

set_option maxHeartbeats 2000000 in
theorem ahead_any (p : Int) (n BS mb G N B : Nat) (aa : Option Addr) (ac : Nat) (ar : List (Nat × Nat × Nat)) (w : World) (h : w.ownsRow B 66 3 (.slice aa ar.length ac) ar.length (arcsL ar)) (hN : N ≤ 400) (hlen : ar.length ≤ 9600) (har : ∀ a ∈ ar, a.1 < N ∧ a.2.2 < N) :
    Calls Try.prog 163 #[.agg (spV p n BS mb G N (.slice aa ar.length ac))] w fun e w' => AhEnd N ar w e w' := by
  obtain ⟨N2, hN2⟩ : ∃ n, Hid (ar.length = n) := ⟨_, rfl⟩
  have HAR := hide har
  rw [hN2.out] at h hlen ⊢
  obtain ⟨av, hav⟩ : ∃ av, Value.slice aa N2 ac = av := ⟨_, rfl⟩
  have hAl := below_al w (.cells (spV p n BS mb G N av) 134)
  have HV0 := hide (heap_alloc_new w (.cells (spV p n BS mb G N av) 134))
  have HO0 := hide (ownsRow_kept h fun g hg => hAl.block g (own_lt h hg).2)
  have HB0 := hide hAl
  have hmk := run_make_many (P := Try.prog) 52 31 _ 1 24 Try.underlying52 Try.info31a .i64 .i64 N (by omega) (by omega)
  simp only [Value.cells] at hmk
  obtain ⟨i0, hi, hz0, hz1, hz2⟩ := info_split Try.info3
  subst hav
  clear h hAl har
  go_enter Try.func163, Try.ntmps163
  go_upto_region 1 with fail
  generalize w.alloc (.cells (spV p n BS mb G N (.slice aa N2 ac)) 134) = v at *
  obtain ⟨⟨hc0, hc1, hc2, hc3, hc4⟩, _⟩ := cells5 HV0.out
  have HA1 := hide (AhSt.made v N)
  have HB1 := hide (below_al v (.cells (madeCells #[.slice none 0 0] N) 31))
  go_upto_region 2 with fail
  clear hmk hc0 hc1 hc2 hc3 hc4
  generalize v.alloc (.cells (madeCells #[.slice none 0 0] N) 31) = v1 at *
  obtain ⟨⟨hc0, hc1, hc2, hc3, hc4⟩, _⟩ := cells5 (keep HV0.out HB1.out)
  have hvs := HB0.out.size
  go_wp2_with fail
  clear hc0 hc1 hc2 hc3 hc4
  go_loopw [13] (fun i wr => ∃ (k : Nat) (V : Nat → Value), k ≤ N2 ∧ i = .int .i64 k ∧ Hid (Below v.heap.size v wr ∧ AhSt wr v.heap.size N (v.heap.size + 1) (toL (ar.take k)) V)) (fun i _ => N2 - (intOf i).toNat)
  case atStart => exact ⟨0, _, Nat.zero_le _, rfl, HB1.out, HA1.out⟩
  case round =>
    obtain ⟨k, V, hk, rfl, hbr⟩ := hrel
    by_cases hlt : k < N2
    rotate_left
    · have hk' : k = N2 := by omega
      have HE : Hid (AhSt wr v.heap.size N (v.heap.size + 1) (toL ar) V) := by have := hbr.out.2; rwa [hk', ← hN2.out, List.take_length] at this
      have HW := hide (HB0.out.trans (hbr.out.1.mono hvs))
      clear hbr hk
      subst hk'
      have hkk : ¬ (k : Int) < (k : Int) := by omega
      go_wp2_with fail
      go_ret
      exact ⟨_, _, V, rfl, hvs, HE.out, HW.out⟩
    obtain ⟨x, y, z, hxy, hmem⟩ := arc_get (show k < ar.length by rw [hN2.out]; exact hlt)
    obtain ⟨hxN, hzN⟩ : x < N ∧ z < N := HAR.out _ hmem
    obtain ⟨ga, hag, q0, q1, q2⟩ := arcs_at (ownsRow_kept HO0.out fun g' hg' => hbr.out.1.block g' (own_lt HO0.out hg').2) hlt hxy
    have hB2 := below_al wr (.cells #[.int .i64 (x : Int), .int .i64 (y : Int), .int .i64 (z : Int)] 66)
    have HBB := hide (hbr.out.1.trans (hB2.mono hbr.out.1.size))
    have HAH := hide (hbr.out.2.grow hB2)
    have HBX := hide (heap_alloc_new wr (.cells #[.int .i64 (x : Int), .int .i64 (y : Int), .int .i64 (z : Int)] 66))
    have hki : (k : Int) < (N2 : Int) := by omega
    have hk9 : (k : Int) ≤ 9600 := by omega
    have hzi : (z : Int) < (N : Int) := by omega
    have hz0i : (0 : Int) ≤ (z : Int) := by omega
    have HTL := hide (fun j => toL_take hxy j)
    have hlz : (toL (ar.take k) z).length ≤ 9600 := by have := toL_len (ar.take k) z; rw [List.length_take] at this; omega
    have HNB : Hid (∀ g, (V z).ownBlock = some g → g < wr.heap.size) := fun g hg => ((hbr.out.2.row z hzN).lt hg).2
    have hvb : v.heap.size < wr.heap.size := row_lt (hbr.out.2.outer.choose_spec.1)
    subst hag
    clear hbr hB2 hxy hmem
    go_upto_region 5 with fail
    clear q0 q1 q2
    generalize wr.alloc (.cells #[.int .i64 (x : Int), .int .i64 (y : Int), .int .i64 (z : Int)] 66) = w2 at *
    generalize wr.heap.size = bH at *
    have hdr := (Below.refl w2.heap.size w2).drew
    have HBB3 := hide (HBB.out.drew)
    have HAH3 := hide (HAH.out.grow hdr)
    have HBX3 := hide (keep HBX.out hdr)
    have HSW : Hid (∀ W, Below w2.drew.heap.size w2.drew W → W.cell? ⟨bH, 0, none⟩ = some (.int .i64 (x : Int)) ∧ W.cell? ⟨bH, 2, none⟩ = some (.int .i64 (z : Int))) := fun W hW => by
      have hk := keep HBX3.out hW
      exact ⟨(cell_of_row W bH 0 _ _ _ hk).trans rfl, (cell_of_row W bH 2 _ _ _ hk).trans rfl⟩
    refine wp_region_held_drew (S := fun W => W.cell? ⟨bH, 0, none⟩ = some (.int .i64 (x : Int)) ∧ W.cell? ⟨bH, 2, none⟩ = some (.int .i64 (z : Int))) (by kernel_rfl) (HSW.out _ (Below.refl _ _)) (fun hHeld => ?_)
    have hSv := HSW.out _ (Below.refl _ _)
    clear HBB HAH HBX hdr hHeld
    generalize w2.drew = w3 at *
    obtain ⟨va, vc, hvf⟩ := (HAH3.out.row z hzN).form
    refine take_yes (i := 0) (some 17) (.slice (some ⟨v.heap.size, 0, none⟩) N N) rfl rfl (by kernel_rfl) (by kernel_rfl) (by kernel_rfl) (fun _ _ _ h => h) (by rfl) ?_ (by assumption) ?_
    · intro W' hSw
      obtain ⟨hz0, hz2⟩ := hSw
      go_simp
    simp only [Act.put, List.setIfInBounds_toArray, List.set_cons_zero, List.set_cons_succ]
    refine take_yes (i := 1) (some 18) (.pointer (some ⟨bH, 2, none⟩)) rfl rfl (by kernel_rfl) (by kernel_rfl) (by kernel_rfl) (fun _ _ _ h => h) (by rfl) ?_ (by assumption) ?_
    · intro W' hSw
      obtain ⟨hz0, hz2⟩ := hSw
      go_simp
    simp only [Act.put, List.setIfInBounds_toArray, List.set_cons_zero, List.set_cons_succ]
    refine take_yes (i := 2) (some 19) (.int .i64 (z : Int)) rfl rfl (by kernel_rfl) (by kernel_rfl) (by kernel_rfl) (fun _ _ _ h => h) (by rfl) ?_ (by assumption) ?_
    · intro W' hSw
      obtain ⟨hz0, hz2⟩ := hSw
      go_simp
    simp only [Act.put, List.setIfInBounds_toArray, List.set_cons_zero, List.set_cons_succ]
    refine take_yes (i := 3) (some 20) (.slice (some ⟨v.heap.size, 0, none⟩) N N) rfl rfl (by kernel_rfl) (by kernel_rfl) (by kernel_rfl) (fun _ _ _ h => h) (by rfl) ?_ (by assumption) ?_
    · intro W' hSw
      obtain ⟨hz0, hz2⟩ := hSw
      go_simp
    simp only [Act.put, List.setIfInBounds_toArray, List.set_cons_zero, List.set_cons_succ]
    refine take_yes (i := 4) (some 21) (.pointer (some ⟨bH, 2, none⟩)) rfl rfl (by kernel_rfl) (by kernel_rfl) (by kernel_rfl) (fun _ _ _ h => h) (by rfl) ?_ (by assumption) ?_
    · intro W' hSw
      obtain ⟨hz0, hz2⟩ := hSw
      go_simp
    simp only [Act.put, List.setIfInBounds_toArray, List.set_cons_zero, List.set_cons_succ]
    refine take_yes (i := 5) (some 22) (.int .i64 (z : Int)) rfl rfl (by kernel_rfl) (by kernel_rfl) (by kernel_rfl) (fun _ _ _ h => h) (by rfl) ?_ (by assumption) ?_
    · intro W' hSw
      obtain ⟨hz0, hz2⟩ := hSw
      go_simp
    simp only [Act.put, List.setIfInBounds_toArray, List.set_cons_zero, List.set_cons_succ]
    refine take_yes (i := 6) (some 23) (.pointer (some ⟨v.heap.size, z, none⟩)) rfl rfl (by kernel_rfl) (by kernel_rfl) (by kernel_rfl) (fun _ _ _ h => h) (by rfl) ?_ (by assumption) ?_
    · intro W' hSw
      obtain ⟨hz0, hz2⟩ := hSw
      go_simp
    simp only [Act.put, List.setIfInBounds_toArray, List.set_cons_zero, List.set_cons_succ]
    refine take_yes (i := 8) (some 25) (.pointer (some ⟨bH, 0, none⟩)) rfl rfl (by kernel_rfl) (by kernel_rfl) (by kernel_rfl) (fun _ _ _ h => h) (by rfl) ?_ (by assumption) ?_
    · intro W' hSw
      obtain ⟨hz0, hz2⟩ := hSw
      go_simp
    simp only [Act.put, List.setIfInBounds_toArray, List.set_cons_zero, List.set_cons_succ]
    refine take_yes (i := 9) (some 26) (.int .i64 (x : Int)) rfl rfl (by kernel_rfl) (by kernel_rfl) (by kernel_rfl) (fun _ _ _ h => h) (by rfl) ?_ (by assumption) ?_
    · intro W' hSw
      obtain ⟨hz0, hz2⟩ := hSw
      go_simp
    simp only [Act.put, List.setIfInBounds_toArray, List.set_cons_zero, List.set_cons_succ]
    refine any_go [7, 10] (fun i => i + 17) (fun _ => []) (fun x y => Below x.heap.size x y) (fun _ W => Below w3.heap.size w3 W) (fun i u W => (i = 7 → u = V z) ∧ (i = 10 → ∃ g, u = .slice (some ⟨g, 0, none⟩) 1 1 ∧ W.heap[g]? = some (.cells #[.int .i64 (x : Int)] 3 (0, 0)))) (fuel := 3) ?_ (by decide) (fun i _ j _ h => by simpa using h) (by kernel_rfl) (by decide) (by kernel_rfl) (by kernel_rfl) (fun _ W hW => HSW.out W hW) ?_ (Below.refl _ _) ?_
    · rintro i u W W' ⟨h1, h2⟩ hb
      refine ⟨h1, fun e => ?_⟩
      obtain ⟨g, e1, e2⟩ := h2 e
      exact ⟨g, e1, keep e2 hb⟩
    · intro i hi2 Pd a zz W o ho hp hoth hdeps hb K hK
      simp only [List.mem_cons, List.not_mem_nil, or_false] at hi2
      rcases hi2 with rfl | rfl
      all_goals obtain rfl := Option.some.inj ho
      · have e1 := evalD (v := .pointer (some ⟨v.heap.size, z, none⟩)) ((hoth 23 (by decide)).trans rfl)
        have hc := ((HAH3.out.grow hb).cell hzN).1
        exact oper_val rfl (v := V z) (w' := W) (by go_simp) (hK _ _ ⟨fun _ => rfl, fun e => absurd e (by decide)⟩ (Below.refl _ _) hb)
      · have e1 : a.eval (.tmp 26) = .int .i64 (x : Int) := (hoth 26 (by decide)).trans rfl
        exact oper_val rfl (exec_build_one (.tmp 26) rfl (x : Int) e1) (hK _ _ ⟨fun e => absurd e (by decide), fun _ => ⟨_, rfl, heap_alloc_new _ _⟩⟩ (below_al W _) (hb.trans ((below_al W _).mono hb.size)))
    · intro u w4 hb4 hG
      have e7 := (hG 7 (by decide)).1 rfl
      obtain ⟨g10, e10, hg10⟩ := (hG 10 (by decide)).2 rfl
      have HAH4 := hide (HAH3.out.grow hb4)
      have HBB4 := hide (HBB3.out.trans (hb4.mono HBB3.out.size))
      have HBX4 := hide (keep HBX3.out hb4)
      have hbl4 : bH < w4.heap.size := row_lt HBX4.out
      clear hG HAH3 HBB3 HBX3 HSW hSv
      rw [hvf] at e7
      simp only [frmD, lstD, if_true, Act.put, List.setIfInBounds_toArray, List.set_cons_zero, List.set_cons_succ, e7, e10]
      obtain ⟨v', w5, hrun, r1, r2, r3⟩ := run_append_tail (P := Try.prog) (HAH4.out.row z hzN) 31 31 3 i0 _ 8 Try.underlying31 hi hz0 hz1 hz2 rfl (by decide) ⟨g10, 0, none⟩ 1 [.int .i64 (x : Int)] rfl (World.news_of_block hg10) (fun u hu => by simp at hu; subst hu; rfl) (by unfold maxLen; omega) (by omega) (by have := HBB4.out.size; have := row_lt (HAH4.out.outer.choose_spec.1); omega)
      have hne : ∀ g, (V z).ownBlock = some g → g ≠ bH ∧ g ≠ v.heap.size := fun g hg => ⟨by have := HNB.out g hg; omega, by have := ((HAH4.out.row z hzN).lt hg).1; omega⟩
      obtain ⟨C, hC, hCs, hCv⟩ := HAH4.out.outer
      have hC5 : w5.heap[v.heap.size]? = some (.cells C 31 (0, 0)) := (r2.block _ (row_lt hC) (fun e => (hne _ e.symm).2 rfl)).trans hC
      have hX5 := (r2.block _ hbl4 (fun e => (hne _ e.symm).1 rfl)).trans HBX4.out
      have hS5 : (fun W : World => W.cell? ⟨bH, 0, none⟩ = some (.int .i64 (x : Int)) ∧ W.cell? ⟨bH, 2, none⟩ = some (.int .i64 (z : Int))) w5 := ⟨(cell_of_row w5 bH 0 _ _ _ hX5).trans rfl, (cell_of_row w5 bH 2 _ _ _ hX5).trans rfl⟩
      obtain ⟨va2, vc2, hv2⟩ := r1.form
      have hP := HAH4.out.put hzN (rows' := toL (ar.take (k + 1))) r2 (v' := v') (by
        rw [HTL.out z, if_pos rfl, List.length_append, intsV_snocU]; exact r1) r3 (fun j hj => by rw [HTL.out j, if_neg (fun e => hj e.symm)])
      have hB5 := (HBB4.out.grown r2 HBB4.out.size (fun g hg => by have := ((HAH4.out.row z hzN).lt hg).1; omega)).setCell (p := ⟨v.heap.size, z, none⟩) (Nat.le_refl _) v'
      subst hv2
      have HP := hide hP
      have HB6 := hide hB5
      have hS6 : (fun W : World => W.cell? ⟨bH, 0, none⟩ = some (.int .i64 (x : Int)) ∧ W.cell? ⟨bH, 2, none⟩ = some (.int .i64 (z : Int))) (w5.setCell ⟨v.heap.size, z, none⟩ (.slice va2 ((toL (ar.take k) z).length + 1) vc2)) := by
        have hX6 : (w5.setCell ⟨v.heap.size, z, none⟩ (.slice va2 ((toL (ar.take k) z).length + 1) vc2)).heap[bH]? = _ := (Below.heap_setCell _ _ _ _ (show bH ≠ v.heap.size by omega)).trans hX5
        exact ⟨(cell_of_row _ bH 0 _ _ _ hX6).trans rfl, (cell_of_row _ bH 2 _ _ _ hX6).trans rfl⟩
      rw [hvf] at hrun
      refine wpAnyH_ready (rs := [11]) (by kernel_rfl) (by simp) (AllReadyH.cons rfl (fun K hK => ?_) AllReadyH.nil)
      rw [if_pos (by rfl)]
      refine oper_append (some 28) rfl (.tmp 24) (.tmp 27) 31 rfl _ _ _ rfl rfl hrun ?_
      refine hK.out _ _ hS5 (fun _ => ?_)
      clear hK K
      simp only [Act.put, List.setIfInBounds_toArray, List.set_cons_zero, List.set_cons_succ]
      refine take_yes (i := 12) (some 29) (.pointer (some ⟨v.heap.size, z, none⟩)) rfl rfl (by kernel_rfl) (by kernel_rfl) (by kernel_rfl) (fun _ _ _ h => h) (by rfl) ?_ (by assumption) ?_
      · intro W' hSw
        obtain ⟨hz0, hz2⟩ := hSw
        go_simp
      simp only [Act.put, List.setIfInBounds_toArray, List.set_cons_zero, List.set_cons_succ]
      refine store_one_next (i := 13) rfl rfl (by kernel_rfl) (by rfl) 31 _ _ rfl v.heap.size z va2 _ vc2 rfl rfl C 31 hC5 (by omega) (by kernel_rfl) hS6 (fun _ => ?_)
      refine wpAnyH_done (by kernel_rfl) ?_ _
      clear hS5 hS6 hC5 hX5 hC hCs hCv hP hB5 r1 r2 r3 hrun HAH4 HBB4 HBX4 HTL hne hlz hg10 hb4 e7
      generalize (toL (ar.take k) z).length + 1 = nn at *
      generalize w5.setCell ⟨v.heap.size, z, none⟩ (.slice va2 nn vc2) = w6 at *
      go_wp2_with fail
      go_roundw
      case rel => exact ⟨k + 1, _, by omega, by go_num, HB6.out, HP.out⟩
      case measure => simp [intOf]; omega
end Go.Proofs.Ytdhnhpjcoeglmaa


/- What alwaysTo keeps in mind: those that are met, in a row of the call's own, and a row of truths. -/
namespace Go.Proofs.Ytdhnhpjcoeglmaa
open Go.RowKit
set_option maxRecDepth 10000

def gdL (gd : Nat → Bool) (k : Nat) : List Nat := (List.range k).filter gd
def gdF (gd : Nat → Bool) (k : Nat) : Nat → Bool := fun i => decide (i < k) && gd i

theorem gdL_yes {gd : Nat → Bool} {k : Nat} (h : gd k = true) : gdL gd (k + 1) = gdL gd k ++ [k] ∧ gdF gd (k + 1) = updT (gdF gd k) k := by
  refine ⟨by simp [gdL, List.range_succ, List.filter_append, h], funext fun i => ?_⟩
  unfold gdF updT
  by_cases e : i = k
  · subst e; simp [h]
  · have e1 : (k == i) = false := by simpa using fun q => e q.symm
    have e2 : decide (i < k + 1) = decide (i < k) := by simp only [decide_eq_decide]; omega
    rw [e1, e2, Bool.or_false]
theorem gdL_no {gd : Nat → Bool} {k : Nat} (h : gd k = false) : gdL gd (k + 1) = gdL gd k ∧ gdF gd (k + 1) = gdF gd k := by
  refine ⟨by simp [gdL, List.range_succ, List.filter_append, h], funext fun i => ?_⟩
  unfold gdF
  by_cases e : i = k
  · subst e; simp [h]
  · have e2 : decide (i < k + 1) = decide (i < k) := by simp only [decide_eq_decide]; omega
    rw [e2]

theorem gd_back (ar : List (Nat × Nat × Nat)) (gd : Nat → Bool) (N : Nat) : BackSt ar (fun i => i < N ∧ gd i = true) N 0 (gdL gd N) (gdF gd N) := by
  have key : ∀ i, gdF gd N i = true ↔ i < N ∧ gd i = true := fun i => by simp [gdF]
  refine ⟨fun x hx => ?_, fun i => ?_, ?_, fun i hi => (key i).2 hi, fun i hi => .at_ ((key i).1 hi), fun x hx => by simp at hx⟩
  · simp [gdL] at hx; exact hx.1
  · rw [key i]; simp [gdL]
  · unfold cntT gdL
    congr 1
    apply List.filter_congr
    intro i hi
    have : i < N := by simpa using hi
    simp [gdF, this]

/-- Block F (the first one behind v) holds the truths f; o is a slice of those that are met. -/
structure CoSt (v wr : World) (N : Nat) (o : Value) (come : List Nat) (f : Nat → Bool) : Prop where
  bel : Below v.heap.size v wr
  row : BRow wr v.heap.size N f
  own : wr.ownsRow (v.heap.size + 1) 3 1 o come.length (intsV come)

theorem CoSt.grow {v wr wr' : World} {N : Nat} {o : Value} {come : List Nat} {f : Nat → Bool} (h : CoSt v wr N o come f) (hb : Below wr.heap.size wr wr') : CoSt v wr' N o come f :=
  ⟨h.bel.trans (hb.mono h.bel.size), h.row.grow hb, ownsRow_kept h.own fun g hg => hb.block g (own_lt h.own hg).2⟩

theorem CoSt.first (v : World) (N : Nat) : CoSt v (v.alloc (.cells (madeCells #[.bool false] N) 4)) N (.slice none 0 0) [] (fun _ => false) :=
  ⟨below_al v _, BRow.made v N, World.ownsRow_nil _ _ _ _⟩

theorem CoSt.push {v wr W' : World} {N : Nat} {o v' : Value} {come : List Nat} {f f' : Nat → Bool} {x : Nat} (h : CoSt v wr N o come f) (hx : x < N) (hr : W'.ownsRow (v.heap.size + 1) 3 1 v' (come.length + 1) (intsV come ++ [.int .i64 (x : Int)])) (hg : wr.grownBy W' o.ownBlock) (hf : ∀ t, f' t = (f t || x == t)) :
    CoSt v (W'.setCell ⟨v.heap.size, x, none⟩ (.bool true)) N v' (come ++ [x]) f' := by
  obtain ⟨C, h1, h2, h3⟩ := h.row
  have hne : ∀ g, o.ownBlock = some g → g ≠ v.heap.size := fun g hgg => by have := (own_lt h.own hgg).1; omega
  have hF : W'.heap[v.heap.size]? = some (.cells C 4 (0, 0)) := (hg.block _ (row_lt h1) (fun e => hne _ e.symm rfl)).trans h1
  refine ⟨(h.bel.grown hg h.bel.size (fun g hgg => by have := (own_lt h.own hgg).1; omega)).setCell (p := ⟨v.heap.size, x, none⟩) (Nat.le_refl _) _, BRow.set ⟨C, hF, h2, h3⟩ hx hf, ?_⟩
  rw [List.length_append, intsV_snocU]
  exact ownsRow_kept hr fun g hgg => Below.heap_setCell _ _ _ _ (show g ≠ v.heap.size by have := (own_lt hr hgg).1; omega)

theorem CoSt.spot {v wr W' : World} {N : Nat} {o : Value} {come : List Nat} {f : Nat → Bool} {x : Nat} (h : CoSt v wr N o come f) (hg : wr.grownBy W' o.ownBlock) (hx : x < N) : W'.cell? ⟨v.heap.size, x, none⟩ = some (.bool (f x)) ∧ W'.frozen? ⟨v.heap.size, x, none⟩ = false := by
  obtain ⟨C, h1, h2, h3⟩ := h.row
  have hne : ∀ g, o.ownBlock = some g → g ≠ v.heap.size := fun g hgg => by have := (own_lt h.own hgg).1; omega
  have hF : W'.heap[v.heap.size]? = some (.cells C 4 (0, 0)) := (hg.block _ (row_lt h1) (fun e => hne _ e.symm rfl)).trans h1
  exact (BRow.cell ⟨C, hF, h2, h3⟩ hx)

/-- The blocks from R on that were there in w9 stay as they were; o's block is none of them. -/
structure Far (w9 wq : World) (R : Nat) (o : Value) : Prop where
  same : ∀ g, R ≤ g → g < w9.heap.size → wq.heap[g]? = w9.heap[g]?
  own : ∀ g, o.ownBlock = some g → g < R ∨ w9.heap.size ≤ g
  size : w9.heap.size ≤ wq.heap.size

theorem lies_of {o : Value} {g g' n cp S H : Nat} (hl : o.ownBlock = some g ∨ g = H + 1) (hg : (Value.slice (some ⟨g, 0, none⟩) n cp).ownBlock = some g') (hS : S ≤ H) : o.ownBlock = some g' ∨ S ≤ g' := by
  simp [Value.ownBlock] at hg
  subst hg
  rcases hl with q | q
  · exact .inl q
  · exact .inr (by omega)

theorem Far.first (w9 : World) (R : Nat) {o : Value} (h : ∀ g, o.ownBlock = some g → g < R) : Far w9 w9 R o := ⟨fun _ _ _ => rfl, fun g hg => .inl (h g hg), Nat.le_refl _⟩

theorem Far.push {w9 wq W1 W' : World} {R F x : Nat} {o v' : Value} (h : Far w9 wq R o) (hb : Below wq.heap.size wq W1) (hg : W1.grownBy W' o.ownBlock) (hv : ∀ g, v'.ownBlock = some g → o.ownBlock = some g ∨ w9.heap.size ≤ g) (hF : F < R) (u : Value) : Far w9 (W'.setCell ⟨F, x, none⟩ u) R v' := by
  refine ⟨fun g h1 h2 => ?_, fun g hg' => ?_, ?_⟩
  · refine (Below.heap_setCell _ _ _ _ (show g ≠ F by omega)).trans ((hg.block g (by have := hb.size; have := h.size; omega) (fun e => ?_)).trans ((hb.block g (by have := h.size; omega)).trans (h.same g h1 h2)))
    rcases h.own g e.symm with q | q <;> omega
  · rcases hv g hg' with q | q
    · exact h.own g q
    · exact .inr q
  · rw [size_setCell]; have := hb.size; have := hg.size; have := h.size; omega

theorem CoSt.at_ {v wr : World} {N : Nat} {o : Value} {come : List Nat} {f : Nat → Bool} (h : CoSt v wr N o come f) {k x : Nat} (hx : come[k]? = some x) : ∃ g cap, o = .slice (some ⟨g, 0, none⟩) come.length cap ∧ wr.cell? ⟨g, k, none⟩ = some (.int .i64 (x : Int)) := by
  have hk : k < come.length := (List.getElem?_eq_some_iff.mp hx).1
  have ho := h.own
  rcases ho.2 with ⟨_, h0⟩ | ⟨g, cap, cur, rfl, hb, hg, hn, hc, hs, ht⟩
  · omega
  · refine ⟨g, cap, rfl, ?_⟩
    rw [ho.cellAt k (by omega)]
    simp [intsV, List.getElem?_map, hx]

theorem CoSt.form {v wr : World} {N : Nat} {o : Value} {come : List Nat} {f : Nat → Bool} (h : CoSt v wr N o come f) : ∃ a c, o = .slice a come.length c := by
  rcases h.own.2 with ⟨rfl, h0⟩ | ⟨g, cap, cur, rfl, _⟩
  · exact ⟨none, 0, by rw [h0]⟩
  · exact ⟨_, _, rfl⟩

/-- A row of the ones that fire there, read later. -/
theorem AhSt.later {w9 wq : World} {R N base : Nat} {rows : Nat → List Nat} {V : Nat → Value} (h : AhSt w9 R N base rows V) {o : Value} (hf : Far w9 wq R o) {x : Nat} (hx : x < N) : wq.cell? ⟨R, x, none⟩ = some (V x) ∧ Tail wq base 1 (V x) (rows x).length (intsV (rows x)) := by
  obtain ⟨C, h1, h2, h3⟩ := h.outer
  refine ⟨?_, (h.row x hx).kept hf.size fun g hg => hf.same g (by have := ((h.row x hx).lt hg).1; have := h.low; omega) ((h.row x hx).lt hg).2⟩
  rw [cell_of_row wq R x C _ _ ((hf.same R (Nat.le_refl _) (row_lt h1)).trans h1)]
  exact h3 x hx

theorem Tail.atU {w : World} {B : Nat} {va : Option Addr} {vc n : Nat} {rs : List Nat} (h : Tail w B 1 (.slice va n vc) n (intsV rs)) {j y : Nat} (hy : rs[j]? = some y) : ∃ g off, va = some ⟨g, off, none⟩ ∧ w.cell? ⟨g, off + j, none⟩ = some (.int .i64 (y : Int)) := by
  have hl := h.1
  have hj : j < rs.length := (List.getElem?_eq_some_iff.mp hy).1
  have hl2 : (intsV rs).length = rs.length := by simp [intsV]
  rcases h.2 with ⟨_, h0⟩ | ⟨g, off, cap, e, _, _, _, _, h5, _⟩
  · omega
  · simp only [Value.slice.injEq] at e
    obtain ⟨rfl, _, _⟩ := e
    exact ⟨g, off, rfl, h5 j _ (by simp [intsV, List.getElem?_map, hy])⟩

/-- How alwaysTo ends. -/
def AtEnd (ar : List (Nat × Nat × Nat)) (gd : Nat → Bool) (N : Nat) (w : World) (e : Ending) (w' : World) : Prop :=
  ∃ b, e = .returned (.bool b) ∧ (b = true ↔ ∀ i, i < N → CanTo ar (fun x => x < N ∧ gd x = true) i) ∧ Below w.heap.size w w'

theorem one_cellU (w : World) (x : Int) : ∀ j u, ([.int .i64 x] : List Value)[j]? = some u → (w.alloc (.cells #[.int .i64 x] 3)).cell? ((⟨w.heap.size, 0, none⟩ : Addr).add j) = some u := one_cell w _
end Go.Proofs.Ytdhnhpjcoeglmaa


/- alwaysTo with the closure impl.IsHome$1. -/
namespace Go.Proofs.Ytdhnhpjcoeglmaa
open Go.RowKit
set_option maxRecDepth 10000

set_option maxHeartbeats 4000000 in
theorem alwaysHome_any (p : Int) (n BS mb G N B l : Nat) (q : Addr) (aa : Option Addr) (ac : Nat) (ms : List (List Int)) (gd : Nat → Bool) (ar : List (Nat × Nat × Nat)) (w : World) (h : w.ownsRow B 66 3 (.slice aa ar.length ac) ar.length (arcsL ar)) (ht : TokAll w G l ms) (hms : ms.length = N) (hN : N ≤ 400) (hlen : ar.length ≤ 9600) (har : ∀ a ∈ ar, a.1 < N ∧ a.2.2 < N)
    (hc : ∀ W, Below w.heap.size w W → ∀ k, k < N → Calls Try.prog 125 #[.agg (packOf (ms.getD k []) l), .pointer (some q)] W fun e W' => e = .returned (.bool (gd k)) ∧ Below W.heap.size W W') :
    Calls Try.prog 124 #[.agg (spV p n BS mb G N (.slice aa ar.length ac)), .func (.func 125) #[] #[.pointer (some q)]] w fun e w' => AtEnd ar gd N w e w' := by
  obtain ⟨N2, hN2⟩ : ∃ n, Hid (ar.length = n) := ⟨_, rfl⟩
  have HAR := hide har
  have HMS := hide hms
  have HCC := hide hc
  have HTT := hide ht
  have hlen2 := hlen
  rw [hN2.out] at hlen
  obtain ⟨av, hav⟩ : ∃ av, Hid (Value.slice aa ar.length ac = av) := ⟨_, rfl⟩
  have hav1 : av.oneCell' = true := by rw [← hav.out]; rfl
  have HO := hide h
  rw [hav.out]
  have hAl := below_al w (.cells (spV p n BS mb G N av) 134)
  have HV0 := hide (heap_alloc_new w (.cells (spV p n BS mb G N av) 134))
  have HB0 := hide hAl
  have hmk := run_make_many (P := Try.prog) 126 4 (.bool false) 1 1 Try.underlying126 Try.info4 .i64 .i64 N (by omega) (by omega)
  obtain ⟨i0, hi, hz0, hz1, hz2⟩ := info_split Try.info3
  clear h hAl har hms hc ht
  go_enter Try.func124, Try.ntmps124
  go_upto_region 2 with fail
  generalize w.alloc (.cells (spV p n BS mb G N av) 134) = v at *
  obtain ⟨⟨hc0, hc1, hc2, hc3, hc4⟩, _⟩ := cells5 HV0.out
  have HC1 := hide (CoSt.first v N)
  go_upto_region 3 with fail
  clear hmk hc0 hc1 hc2 hc3 hc4
  generalize v.alloc (.cells (madeCells #[.bool false] N) 4) = v1 at *
  obtain ⟨⟨hc0, hc1, hc2, hc3, hc4⟩, _⟩ := cells5 (keep HV0.out HC1.out.bel)
  have hvs := HB0.out.size
  go_wp2_with fail
  clear hc0 hc1 hc2 hc3 hc4
  go_loopw [5, 20] (fun o i wr => ∃ k : Nat, k ≤ N ∧ i = .int .i64 k ∧ Hid (CoSt v wr N o (gdL gd k) (gdF gd k))) (fun _ i _ => N - (intOf i).toNat)
  case atStart => exact ⟨0, Nat.zero_le _, rfl, by rw [show gdF gd 0 = fun _ => false from by funext i; simp [gdF]]; exact HC1⟩
  case round =>
    obtain ⟨k, hk, rfl, hco⟩ := hrel
    by_cases hlt : k < N
    rotate_left
    · have hk' : k = N := by omega
      have HCO := hide hco.out
      rw [hk'] at HCO
      have hkk : ¬ (k : Int) < (N : Int) := by omega
      clear hco hk hk' hlt
      have HBK := hide (gd_back ar gd N)
      generalize gdL gd N = cs at *
      generalize gdF gd N = cf at *
      have hz5 := keep HV0.out HCO.out.bel
      have hFw : v.heap.size < wr.heap.size := row_lt HCO.out.row.choose_spec.1
      have HAH := hide (ahead_any p n BS mb G N B aa ac ar wr (ownsRow_kept HO.out fun g hg => (HB0.out.trans (HCO.out.bel.mono hvs)).block g (own_lt HO.out hg).2) hN hlen2 HAR.out)
      rw [hav.out] at HAH
      have HOL : Hid (∀ g, u5.ownBlock = some g → g < wr.heap.size) := fun g hg => (own_lt HCO.out.own hg).2
      go_wp2_with (first
        | ((show wpList _ _ _ (⟨some 36, .load 134 (.tmp 2), _, _, _, _⟩ :: _) _ _); refine wpList_load_row rfl 134 (.tmp 2) rfl _ rfl 134 (spV p n BS mb G N av) (0, 0) _ hz5 Try.underlying134 rfl Try.size134 ?_)
        | (go_at_call 163; refine HAH.out.mono ?_; rintro e w9 ⟨R, base, V, rfl, hR, hah, hb9⟩; have HAS := hide hah; have HCO9 := hide (HCO.out.grow hb9); have HFAR := hide (Far.first w9 R (o := u5) (fun g hg => Nat.lt_of_lt_of_le (HOL.out g hg) hR)); clear hah hb9))
      clear HAH hz5 HOL
      generalize u5 = o5 at *
      clear HCO
      have hFR : v.heap.size < R := by omega
      go_loopw [5, 10] (fun o i wq => ∃ (k : Nat) (come : List Nat) (f : Nat → Bool), k ≤ come.length ∧ i = .int .i64 k ∧ Hid (CoSt v wq N o come f) ∧ Hid (BackSt ar (fun i => i < N ∧ gd i = true) N k come f) ∧ Hid (Far w9 wq R o)) (fun _ i _ => N - (intOf i).toNat)
      case atStart => exact ⟨0, cs, cf, Nat.zero_le _, rfl, HCO9, HBK, HFAR⟩
      case round =>
        obtain ⟨k2, come, f, hk2, rfl, hco2, hbk, hfar⟩ := hrel
        clear HCO9 HBK HFAR
        have hcN : come.length ≤ N := by rw [hbk.out.cnt]; exact cntT_le _ _
        by_cases hlt2 : k2 < come.length
        rotate_left
        · have HEQ : Hid (come.length = N ↔ ∀ i, i < N → CanTo ar (fun x => x < N ∧ gd x = true) i) := by
            show _ ↔ _
            rw [hbk.out.cnt, cntT_all]
            exact ⟨fun h i hi => (hbk.out.fin (by omega) i).1 (h i hi), fun h i hi => (hbk.out.fin (by omega) i).2 (h i hi)⟩
          have HBW := hide (HB0.out.trans (hco2.out.bel.mono hvs))
          obtain ⟨⟨hc0, hc1, hc2, hc3, hc4⟩, _⟩ := cells5 (keep HV0.out hco2.out.bel)
          obtain ⟨oa, oc, rfl⟩ := hco2.out.form
          have hnl : ¬ (k2 : Int) < (come.length : Int) := by omega
          clear hbk hfar hco2 hlt2 hk2
          generalize come.length = cl at *
          by_cases hcl : cl = N
          · subst hcl
            have hyes := HEQ.out.1 rfl
            have HY := hide hyes
            clear HEQ hyes
            go_wp2_with fail
            go_ret
            exact ⟨true, rfl, ⟨fun _ => HY.out, fun _ => rfl⟩, HBW.out⟩
          · have hne : ((cl : Int) == (N : Int)) = false := by simp; omega
            have HNN : Hid (¬ ∀ i, i < N → CanTo ar (fun x => x < N ∧ gd x = true) i) := fun h => hcl (HEQ.out.2 h)
            clear HEQ
            go_wp2_with fail
            go_ret
            exact ⟨false, rfl, ⟨fun h => (by cases h), fun h => absurd h HNN.out⟩, HBW.out⟩
        obtain ⟨x, hx⟩ : ∃ x, Hid (come[k2]? = some x) := ⟨_, List.getElem?_eq_getElem hlt2⟩
        have hxN : x < N := hbk.out.lt x (List.mem_of_getElem? hx.out)
        obtain ⟨og, oc, hou, hcx⟩ := hco2.out.at_ hx.out
        obtain ⟨hrx, hta⟩ := HAS.out.later hfar.out hxN
        obtain ⟨va, vc, hva⟩ := hta.form
        rw [hva] at hrx hta
        have HTA9 : Hid (V x = .slice va (toL ar x).length vc) := hva
        have hln : (toL ar x).length ≤ 9600 := by have := toL_len ar x; omega
        obtain ⟨ln, hlne⟩ : ∃ ln, Hid ((toL ar x).length = ln) := ⟨_, rfl⟩
        rw [hlne.out] at hrx hta HTA9 hln
        have hki : (k2 : Int) < (come.length : Int) := by omega
        have hxi : (x : Int) < (N : Int) := by omega
        have hx0 : (0 : Int) ≤ (x : Int) := by omega
        have hk20 : (0 : Int) ≤ (k2 : Int) := by omega
        have hk24 : (k2 : Int) ≤ 400 := by omega
        have HK2 := hide hlt2
        have HCN := hide hcN
        clear hta hva
        subst hou
        go_wp2_with fail
        clear hcx hrx
        generalize wr = wq0 at *
        clear hki
        go_loopw [5, 52] (fun o j wq => ∃ (jj : Nat) (come' : List Nat) (f' : Nat → Bool), jj ≤ ln ∧ j = .int .i64 jj ∧ Hid (CoSt v wq N o come' f') ∧ Hid (BackSt ar (fun i => i < N ∧ gd i = true) N k2 come' f') ∧ Hid (Far w9 wq R o) ∧ Hid (come'[k2]? = some x) ∧ Hid (∀ i ∈ (toL ar x).take jj, f' i = true)) (fun _ j _ => ln - (intOf j).toNat)
        case atStart => exact ⟨0, come, f, Nat.zero_le _, rfl, hco2, hbk, hfar, hx, fun i hi => by simp at hi⟩
        case round =>
          obtain ⟨jj, come', f', hjj, rfl, hco3, hbk3, hfar3, hx3, hall⟩ := hrel
          clear hco2 hbk hfar hx
          by_cases hlt3 : jj < ln
          rotate_left
          · have HNX := hide (hbk3.out.next hx3.out (fun i t hi => hall.out i (by rw [List.take_of_length_le (by rw [hlne.out]; omega)]; exact toL_mem.2 ⟨t, hi⟩)))
            have hk3 : k2 + 1 ≤ come'.length := (List.getElem?_eq_some_iff.mp hx3.out).1
            have hkN2 : k2 < N := by have := HCN.out; have := HK2.out; omega
            have hnl : ¬ (jj : Int) < (ln : Int) := by omega
            clear hbk3 hx3 hall hlt3 hjj
            go_wp2_with fail
            go_roundw
            case rel => exact ⟨k2 + 1, come', f', hk3, by go_num, hco3, HNX, hfar3⟩
            case measure => simp [intOf]; omega
          obtain ⟨y, hy⟩ : ∃ y, Hid ((toL ar x)[jj]? = some y) := ⟨_, List.getElem?_eq_getElem (by rw [hlne.out]; exact hlt3)⟩
          obtain ⟨t, hta⟩ := toL_mem.1 (List.mem_of_getElem? hy.out)
          have HTA := hide hta
          have hyN : y < N := (HAR.out _ hta).1
          obtain ⟨_, htl⟩ := HAS.out.later hfar3.out hxN
          rw [HTA9.out, hlne.out] at htl
          obtain ⟨yg, yo, rfl, hcy⟩ := htl.atU hy.out
          obtain ⟨hs0, hs1⟩ := hco3.out.row.cell hyN
          have hji : (jj : Int) < (ln : Int) := by omega
          have hj0 : (0 : Int) ≤ (jj : Int) := by omega
          have hj9 : (jj : Int) ≤ 9600 := by omega
          have hyi : (y : Int) < (N : Int) := by omega
          have hy0 : (0 : Int) ≤ (y : Int) := by omega
          have hy4 : (y : Int) ≤ 400 := by omega
          have hclen : come'.length ≤ N := by rw [hbk3.out.cnt]; exact cntT_le _ _
          have HALL : Hid (∀ g : Nat → Bool, (∀ i, f' i = true → g i = true) → g y = true → ∀ i ∈ (toL ar x).take (jj + 1), g i = true) := fun g h1 h2 i hi => by
            rw [List.take_add_one, hy.out] at hi
            rcases List.mem_append.1 hi with q | q
            · exact h1 i (hall.out i q)
            · simp at q; rw [q]; exact h2
          clear htl hta hall
          cases hfy : f' y
          · rw [hfy] at hs0
            have HMT := hide (hbk3.out.meet (List.mem_of_getElem? hx3.out) HTA.out hyN hfy (by have := (List.getElem?_eq_some_iff.mp hx3.out).1; omega))
            have HX3 : Hid ((come' ++ [y])[k2]? = some x) := by
              have hl := (List.getElem?_eq_some_iff.mp hx3.out).1
              show _ = _
              rw [List.getElem?_append_left hl]; exact hx3.out
            have HA2 := hide (HALL.out (updT f' y) (fun i hi => updT_old hi) (updT_at f' y))
            have hA2 := below_al wr (.cells #[.int .i64 (y : Int)] 3)
            have HA3 := hide hA2
            have HCO4 := hide (hco3.out.grow hA2)
            have HFA := hide hfar3.out
            have HCE : Hid (∀ j u, ([.int .i64 (y : Int)] : List Value)[j]? = some u → (wr.alloc (.cells #[.int .i64 (y : Int)] 3)).cell? ((⟨wr.heap.size, 0, none⟩ : Addr).add j) = some u) := one_cell wr _
            have H1c : Hid (∀ u ∈ ([.int .i64 (y : Int)] : List Value), u.oneCell' = true) := fun u hu => by simp at hu; subst hu; rfl
            have HX := hide (show come'.length + 1 ≤ maxLen by unfold maxLen; omega)
            have HY := hide (show (come'.length + 1) * 8 ≤ 140737488355328 by omega)
            have HZ : Hid (v.heap.size + 1 ≤ (wr.alloc (.cells #[.int .i64 (y : Int)] 3)).heap.size) := row_lt HCO4.out.row.choose_spec.1
            have HZ9 := hide hfar3.out.size
            clear hA2 hco3 hbk3 hfar3 hx3 HALL hfy
            go_upto_region 19 with (at_builtin; refine wpList_append_lies _ rfl (.tmp 61) (.tmp 63) 31 rfl (v.heap.size + 1) 3 i0 (.int .i64 0) 1 8 Try.underlying31 hi hz0 hz1 hz2 rfl (by decide) u5 come'.length _ rfl HCO4.out.own ⟨wr.heap.size, 0, none⟩ 1 1 [.int .i64 (y : Int)] rfl rfl HCE.out H1c.out (by decide) HX.out HY.out HZ.out (wr.heap.size + 1) (by simp) ?_; intro g cp W' hown hgr hlies hglt)
            obtain ⟨hs2, hs3⟩ := HCO4.out.spot hgr hyN
            have HP := hide (HCO4.out.push hyN hown hgr (fun t => rfl))
            have HF2 := hide (Far.push (x := y) (v' := .slice (some ⟨g, 0, none⟩) (come'.length + 1) cp) HFA.out HA3.out hgr (fun g' hg' => lies_of hlies hg' HZ9.out) hFR (.bool true))
            clear hown hgr hlies hglt
            go_wp2_with fail
            go_roundw
            case rel => exact ⟨jj + 1, come' ++ [y], updT f' y, by omega, by go_num, HP, HMT, HF2, HX3, HA2⟩
            case measure => simp [intOf]; omega
          · rw [hfy] at hs0
            have HA2 := hide (HALL.out f' (fun i hi => hi) hfy)
            clear HALL hfy
            go_wp2_with fail
            go_roundw
            case rel => exact ⟨jj + 1, come', f', by omega, by go_num, hco3, hbk3, hfar3, hx3, HA2⟩
            case measure => simp [intOf]; omega
    have hrg := (HTT.out.grow (HB0.out.trans (hco.out.bel.mono hvs))).cells k (by rw [HMS.out]; exact hlt)
    obtain ⟨m, hm⟩ : ∃ m, Hid (ms.getD k [] = m) := ⟨_, rfl⟩
    rw [hm.out] at hrg
    have hkN : (k : Int) < (N : Int) := by omega
    have hk0 : (0 : Int) ≤ (k : Int) := by omega
    have hk4 : (k : Int) ≤ 400 := by omega
    have hA1 := below_al wr (.cells #[.int .u8 0, .int .u8 0, .int .u8 0, .int .u8 0, .int .u8 0, .int .u8 0, .int .u8 0, .int .u8 0, .int .u8 0, .int .u8 0, .int .u8 0, .int .u8 0, .int .u8 0, .int .u8 0, .int .u8 0, .int .u8 0] 93)
    have hg0 := heap_alloc_new wr (.cells #[.int .u8 0, .int .u8 0, .int .u8 0, .int .u8 0, .int .u8 0, .int .u8 0, .int .u8 0, .int .u8 0, .int .u8 0, .int .u8 0, .int .u8 0, .int .u8 0, .int .u8 0, .int .u8 0, .int .u8 0, .int .u8 0] 93)
    have hV := below_setRow hA1 wr.heap.size (Nat.le_refl _) (packOf m l)
    have hz := setRow_same hg0 (packOf m l)
    have HCO2 := hide (hco.out.grow hV)
    have HHC := hide (HCC.out _ (HB0.out.trans (HCO2.out.bel.mono hvs)) k hlt)
    rw [hm.out] at HHC
    have hlk : (gdL gd k).length ≤ k := by unfold gdL; have := List.length_filter_le gd (List.range k); rwa [List.length_range] at this
    have hseen := hco.out.row
    clear hco hA1 hV hseen
    go_upto_region 7 with (first
      | ((show wpList _ _ _ (⟨some 24, .load 93 (.tmp 23), _, _, _, _⟩ :: _) _ _); refine wpList_load_tokQ rfl (.tmp 23) rfl G (k * 16) rfl l m hrg ?_)
      | ((show wpList _ _ _ (⟨none, .store 93 (.tmp 8) (.tmp 24), _, _, _, _⟩ :: _) _ _); refine wpList_store_row rfl 93 _ _ rfl _ _ rfl rfl 93 _ hg0 (by rw [packOf_size]; exact Try.size93) (by rw [packOf_size]; rfl) (packOf_one _ _) ?_)
      | ((show wpList _ _ _ (⟨some 26, .load 93 (.tmp 8), _, _, _, _⟩ :: _) _ _); refine wpList_load_row rfl 93 (.tmp 8) rfl _ rfl 93 (packOf m l) (0, 0) _ hz Try.underlying93 rfl (by rw [packOf_size]; exact Try.size93) ?_))
    refine HHC.out.mono ?_
    rintro e w2 ⟨rfl, hb⟩
    have HCO3 := hide (HCO2.out.grow hb)
    clear HHC HCO2 hb hg0 hz hrg
    generalize (wr.alloc (.cells #[.int .u8 0, .int .u8 0, .int .u8 0, .int .u8 0, .int .u8 0, .int .u8 0, .int .u8 0, .int .u8 0, .int .u8 0, .int .u8 0, .int .u8 0, .int .u8 0, .int .u8 0, .int .u8 0, .int .u8 0, .int .u8 0] 93)).setRow wr.heap.size (packOf m l) = wx at *
    cases hgk : gd k
    · obtain ⟨e1, e2⟩ := gdL_no hgk
      rw [← e1, ← e2] at HCO3
      clear hgk e1 e2
      go_wp2_with fail
      go_roundw
      case rel => exact ⟨k + 1, by omega, by go_num, HCO3⟩
      case measure => simp [intOf]; omega
    · obtain ⟨e1, e2⟩ := gdL_yes hgk
      have HE := hide (And.intro e1 e2)
      clear hgk e1 e2
      generalize gdL gd k = cs at *
      generalize gdF gd k = cf at *
      have hA2 := below_al w2 (.cells #[.int .i64 (k : Int)] 3)
      have HCO4 := hide (HCO3.out.grow hA2)
      have HCE : Hid (∀ j u, ([.int .i64 (k : Int)] : List Value)[j]? = some u → (w2.alloc (.cells #[.int .i64 (k : Int)] 3)).cell? ((⟨w2.heap.size, 0, none⟩ : Addr).add j) = some u) := one_cell w2 _
      have H1c : Hid (∀ u ∈ ([.int .i64 (k : Int)] : List Value), u.oneCell' = true) := fun u hu => by simp at hu; subst hu; rfl
      have HX := hide (show cs.length + 1 ≤ maxLen by unfold maxLen; omega)
      have HY := hide (show (cs.length + 1) * 8 ≤ 140737488355328 by omega)
      have HZ : Hid (v.heap.size + 1 ≤ (w2.alloc (.cells #[.int .i64 (k : Int)] 3)).heap.size) := row_lt HCO4.out.row.choose_spec.1
      clear hA2 HCO3
      go_wp2_with (refine wpList_append_own _ rfl (.tmp 28) (.tmp 30) 31 rfl (v.heap.size + 1) 3 i0 (.int .i64 0) 1 8 Try.underlying31 hi hz0 hz1 hz2 rfl (by decide) u5 cs.length _ rfl HCO4.out.own ⟨w2.heap.size, 0, none⟩ 1 1 [.int .i64 (k : Int)] rfl rfl HCE.out H1c.out HX.out HY.out HZ.out ?_; intro v' W' r1 r2 r3; obtain ⟨hs0, hs1⟩ := HCO4.out.spot r2 hlt; have HP := hide (HCO4.out.push hlt r1 r2 (fun t => rfl)); clear r1 r2 r3)
      go_roundw
      case rel => exact ⟨k + 1, by omega, by go_num, by rw [HE.out.1, HE.out.2]; exact HP⟩
      case measure => simp [intOf]; omega
end Go.Proofs.Ytdhnhpjcoeglmaa


/- IsHome of the program. -/
namespace Go.Proofs.Ytdhnhpjcoeglmaa
open Go.RowKit
set_option maxRecDepth 10000

theorem homeC_any (l g : Nat) (m xs : List Int) (w : World) (hl : l ≤ 16) (hm : m.length = l) (hx : xs.length = l) (hg : w.heap[g]? = some (.cells (packOf xs l) 93 (0, 0))) :
    Calls Try.prog 125 #[.agg (packOf m l), .pointer (some ⟨g, 0, none⟩)] w fun e w' => e = .returned (.bool (decide (m = xs))) ∧ Below w.heap.size w w' := by
  have hAl := below_al w (.cells (packOf m l) 93)
  have hg0 := heap_alloc_new w (.cells (packOf m l) 93)
  have hg1 := keep hg hAl
  have HB := hide hAl
  have hq : ∀ w, (Op.equalIn 10000 93 (.agg (packOf m l)) (.agg (packOf xs l))).run Try.prog w = .ok (decide (m = xs)) w := fun w => by
    have h := run_equalIn_tok 9999 9998 rfl (fOf m l) (fOf xs l) w
    have e : eqF (fOf m l) (fOf xs l) (List.range 16) = decide (m = xs) := by
      rw [Bool.eq_iff_iff, decide_eq_true_eq]; exact pack_eq hl hm hx
    rw [← e]; exact h
  clear hg hAl
  generalize decide (m = xs) = b at *
  go_enter Try.func125, Try.ntmps125
  go_wp2_with (first
    | ((show wpList _ _ _ (⟨some 4, .load 93 (.tmp 2), _, _, _, _⟩ :: _) _ _); refine wpList_load_row rfl 93 (.tmp 2) rfl _ rfl 93 (packOf m l) (0, 0) _ hg0 Try.underlying93 rfl (by rw [packOf_size]; exact Try.size93) ?_)
    | ((show wpList _ _ _ (⟨some 5, .load 93 (.tmp 1), _, _, _, _⟩ :: _) _ _); refine wpList_load_row rfl 93 (.tmp 1) rfl _ rfl 93 (packOf xs l) (0, 0) _ hg1 Try.underlying93 rfl (by rw [packOf_size]; exact Try.size93) ?_))
  go_ret
  exact ⟨rfl, HB.out⟩

set_option maxHeartbeats 2000000 in
theorem homeI_any (p : Int) (a am ax : Option Addr) (n c nm cm nx cx : Nat) (L : List (List Int)) (ys xs : List Int) (bg : Int) (w : World) (h : Lists w a (3 * n) L) (rm : Row w am nm ys) (rx : Row w ax nx xs) (hs : sizeN n L ≤ 1048576) (hnm : nm ≤ 1048576) (hnx : nx ≤ 1048576) :
    Calls Try.prog 55 #[.agg #[.int .i64 p, .slice a n c], .slice am nm cm, .int .i64 bg, .slice ax nx cx] w fun e w' => IhEnd p n L ys bg xs w e w' := by
  have hAl := below_al w (.cells #[.int .i64 p, .slice a n c] 26)
  have HX := hide (spaceTok_any p a am ax n c nm cm nx cx L ys xs bg _ (h.below hAl) (rm.below hAl) (rx.below hAl) hs hnm hnx)
  have HLX := hide rx.1
  have HB0 := hide hAl
  clear h rm rx hAl
  go_enter Try.func55, Try.ntmps55
  go_wp2_with fail
  generalize w.alloc (.cells #[.int .i64 p, .slice a n c] 26) = v0 at *
  refine HX.out.mono ?_
  rintro e w1 ⟨hb1, hxx⟩
  have HB1 := hide (HB0.out.trans (hb1.mono HB0.out.size))
  clear hb1 HB0 HX
  have hA3 := (below_al w1 (.cells spZ 134)).trans ((below_al (w1.alloc (.cells spZ 134)) (.cells #[.int .u8 0, .int .u8 0, .int .u8 0, .int .u8 0, .int .u8 0, .int .u8 0, .int .u8 0, .int .u8 0, .int .u8 0, .int .u8 0, .int .u8 0, .int .u8 0, .int .u8 0, .int .u8 0, .int .u8 0, .int .u8 0] 93)).mono (by simp))
  have hg0 := keep (heap_alloc_new w1 (.cells spZ 134)) (below_al (w1.alloc (.cells spZ 134)) (.cells #[.int .u8 0, .int .u8 0, .int .u8 0, .int .u8 0, .int .u8 0, .int .u8 0, .int .u8 0, .int .u8 0, .int .u8 0, .int .u8 0, .int .u8 0, .int .u8 0, .int .u8 0, .int .u8 0, .int .u8 0, .int .u8 0] 93))
  have hg1 := heap_alloc2_new w1 (.cells spZ 134) (.cells #[.int .u8 0, .int .u8 0, .int .u8 0, .int .u8 0, .int .u8 0, .int .u8 0, .int .u8 0, .int .u8 0, .int .u8 0, .int .u8 0, .int .u8 0, .int .u8 0, .int .u8 0, .int .u8 0, .int .u8 0, .int .u8 0] 93)
  rcases hxx with ⟨hso, s, B, BS, mb, G, aa, ac, hok, hst, rfl⟩ | ⟨hso, k, rfl⟩
  rotate_left
  · have hg1s := (setRow_otherW _ (show w1.heap.size + 1 ≠ w1.heap.size by omega) spZ).trans hg1
    have HN := hide (ihEnd_no (w := w) hso (below_setRow (below_setRow (HB1.out.trans (hA3.mono HB1.out.size)) w1.heap.size HB1.out.size spZ) (w1.heap.size + 1) (by have := HB1.out.size; omega) (packOf xs k)))
    clear hso hA3
    go_wp2_with (first
      | ((show wpList _ _ _ (⟨none, .store 134 (.tmp 10) (.tmp 19), _, _, _, _⟩ :: _) _ _); refine wpList_store_row rfl 134 _ _ rfl _ _ rfl rfl 134 _ hg0 Try.size134 rfl spZ_one ?_)
      | ((show wpList _ _ _ (⟨none, .store 93 (.tmp 11) (.tmp 20), _, _, _, _⟩ :: _) _ _); refine wpList_store_row rfl 93 _ _ rfl _ _ rfl rfl 93 _ hg1s (by rw [packOf_size]; exact Try.size93) (by rw [packOf_size]; rfl) (packOf_one _ _) ?_))
    go_ret2
    exact HN.out
  obtain ⟨hcode, hgx⟩ := saOk_parts hso
  have hlx : xs.length = nx := HLX.out
  have hlp := (goodB_parts hgx).2.1
  have hnn : nx = nm := by have := hok.hl; omega
  have hg1s := (setRow_otherW _ (show w1.heap.size + 1 ≠ w1.heap.size by omega) (spV p n BS mb G s.ms.length (.slice aa s.ar.length ac))).trans hg1
  have hV := below_setRow (below_setRow hA3 w1.heap.size (Nat.le_refl _) (spV p n BS mb G s.ms.length (.slice aa s.ar.length ac))) (w1.heap.size + 1) (Nat.le_succ _) (packOf xs nx)
  have HB3 := hide (HB1.out.trans (hV.mono HB1.out.size))
  have HST := hide (hst.grow hV)
  have hz1 := setRow_same hg0 (spV p n BS mb G s.ms.length (.slice aa s.ar.length ac))
  have hz3 := (setRow_otherW _ (show w1.heap.size ≠ w1.heap.size + 1 by omega) (packOf xs nx)).trans hz1
  have HG11 := hide (setRow_same hg1s (packOf xs nx))
  have HOK := hide hok
  have hmf : ∀ (fn : Fn) (first cap : Array Value) (w : World), (Instr.makeFunc fn first cap).run Try.prog w = .ok (.func fn first cap) w := fun _ _ _ _ => rfl
  subst hnn
  have HN := hide (fun W b hx (hW : Below w.heap.size w W) => ihEnd_yes (w := w) (w' := W) (b := b) hso HOK.out hx hW)
  have hl16 := hok.l16
  clear hA3 hV hst HB1 hcode hgx hlp hok hz1 hso
  go_upto_region 4 with (first
    | ((show wpList _ _ _ (⟨none, .store 134 (.tmp 10) (.tmp 19), _, _, _, _⟩ :: _) _ _); refine wpList_store_row rfl 134 _ _ rfl _ _ rfl rfl 134 _ hg0 Try.size134 rfl (spV_one _ _ _ _ _ _ _ _ _) ?_)
    | ((show wpList _ _ _ (⟨none, .store 93 (.tmp 11) (.tmp 20), _, _, _, _⟩ :: _) _ _); refine wpList_store_row rfl 93 _ _ rfl _ _ rfl rfl 93 _ hg1s (by rw [packOf_size]; exact Try.size93) (by rw [packOf_size]; rfl) (packOf_one _ _) ?_))
  clear hg0 hg1s hg1
  generalize (((w1.alloc (.cells spZ 134)).alloc (.cells #[.int .u8 0, .int .u8 0, .int .u8 0, .int .u8 0, .int .u8 0, .int .u8 0, .int .u8 0, .int .u8 0, .int .u8 0, .int .u8 0, .int .u8 0, .int .u8 0, .int .u8 0, .int .u8 0, .int .u8 0, .int .u8 0] 93)).setRow w1.heap.size (spV p n BS mb G s.ms.length (.slice aa s.ar.length ac))).setRow (w1.heap.size + 1) (packOf xs nx) = v3 at *
  have HAT := hide (alwaysHome_any p n BS mb G s.ms.length B nx ⟨w1.heap.size + 1, 0, none⟩ aa ac s.ms (fun k => decide (s.ms.getD k [] = xs)) s.ar v3 HST.out.arcs HST.out.toks rfl HOK.out.m4 HOK.out.len (arcs_lt HOK.out)
    (fun W hW k hk => homeC_any nx (w1.heap.size + 1) _ xs W hl16 (HOK.out.goodAt hk).1 hlx (keep HG11.out hW)))
  generalize w1.heap.size = bm at *
  clear HOK
  go_wp2_with ((show wpList _ _ _ (⟨some 24, .load 134 (.tmp 10), _, _, _, _⟩ :: _) _ _); refine wpList_load_row rfl 134 (.tmp 10) rfl _ rfl 134 (spV p n BS mb G s.ms.length (.slice aa s.ar.length ac)) (0, 0) _ hz3 Try.underlying134 rfl Try.size134 ?_)
  refine HAT.out.mono ?_
  rintro e w4 ⟨b, rfl, hb, hbw⟩
  have HE := hide (HN.out w4 b (hb.trans ⟨fun h i hi => (CanTo.congr (fun i => by simp)).1 (h i hi), fun h i hi => (CanTo.congr (fun i => by simp)).1 (h i hi)⟩) (HB3.out.trans (hbw.mono HB3.out.size)))
  clear HN HAT hb hbw
  go_wp2_with fail
  go_ret2
  exact HE.out
end Go.Proofs.Ytdhnhpjcoeglmaa
