/- Proved: for every number and every text, in whatever memory, the law FnExactReadMark returns true and leaves its arguments, and the table of constants that it reads, as they were; the table starts as the program's text lays it (the card ties it); no other condition. -/
import Derived.Test.YtkpmpnbeedapgaaDoorLReadW
import Derived.Test.YtkpmpnbeedapgaaDoorRows
import Derived.Test.YtkpmpnbeedapgaaDoorTie
import Derived.Test.YtkpmpnbeedapgaaDoorCards
import Derived.ProofKit
import Derived.OpenShut
import Derived.ShutString
import Derived.LaidMore
import Derived.Lib.LaidTab
import Derived.WalkSmall
import Derived.Stop.Joined
import Derived.SevenTiedAt
namespace Go.Proofs.YtkpmpnbeedapgaaDoor.fnExactReadMark
open Go Go.ChangeShapes Go.WideShapes Go.ChangeAt Go.RowKit
open Go.ChangeMaps (open_string shut_string)
set_option linter.unusedVariables false

theorem own : ownKnob Tryd.prog.godebug = none := by kernel_rfl
theorem gTab : Tryd.prog.globalNamed "loop.example/g00662/impl.numberAfter" = some 0 := by kernel_rfl
theorem tTab : (Tryd.prog.globals[0]?).map (·.type) = some 42 := by kernel_rfl
theorem c3 : Tryd.prog.cellsOf 3 = 1 := by kernel_rfl
theorem c41 : Tryd.prog.cellsOf 41 = 4 := by kernel_rfl
theorem c42 : Tryd.prog.cellsOf 42 = 12 := by kernel_rfl

abbrev name : String := "loop.example/g00662/impl.numberAfter"
abbrev laid1 {H : Type} : List (String × DataW H) := [(name, Rows.laid_loop_example_g00662_impl_numberAfter)]
def cells12 : Array Value := #[.int .i64 1, .int .i64 2, .int .i64 3, .int .i64 3, .int .i64 3, .int .i64 3, .int .i64 0, .int .i64 3, .int .i64 2, .int .i64 2, .int .i64 0, .int .i64 3]

theorem cells_of_laid {W : World} (h : laidMetH Tryd.prog laid1 W) : W.var? Tryd.prog name = some cells12 := by
  rw [MakeChecks.laidMetH_plain _ _ _ (by kernel_rfl)] at h
  obtain ⟨ps, ⟨g, t, cs, fuel, p, q, hg, ht, hvar, hd, _, _⟩, _⟩ := h
  obtain rfl := Option.some.inj (gTab.symm.trans hg)
  obtain rfl := Option.some.inj (tTab.symm.trans ht)
  rw [hvar]
  congr 1
  obtain ⟨xs, m1, rfl, hx, hlen, hn3, hel⟩ := DataW.trod_array Tryd.underlying42 hd
  rw [c42] at hlen
  rw [c41] at hel
  simp only [Rows.laid_loop_example_g00662_impl_numberAfter, Prod.mk.injEq, DataW.agg.injEq] at hx
  obtain ⟨x0, x1, x2, rfl⟩ : ∃ x0 x1 x2, xs = [x0, x1, x2] := by
    match xs, hn3 with
    | [a, b, c], _ => exact ⟨a, b, c, rfl⟩
  simp only [List.map_cons, List.map_nil, List.cons.injEq, and_true] at hx
  obtain ⟨⟨e0, e1, e2⟩, _⟩ := hx
  have r0 := Lib.cells_of_tab (zs := [1, 2, 3, 3]) Tryd.underlying41 Tryd.underlying3 c3 c41 (p := x0.2) (by rw [hel 0 (by omega)]; exact congrArg some (Prod.ext e0.symm rfl))
  have r1 := Lib.cells_of_tab (zs := [3, 3, 0, 3]) Tryd.underlying41 Tryd.underlying3 c3 c41 (p := x1.2) (by rw [hel 1 (by omega)]; exact congrArg some (Prod.ext e1.symm rfl))
  have r2 := Lib.cells_of_tab (zs := [2, 2, 0, 3]) Tryd.underlying41 Tryd.underlying3 c3 c41 (p := x2.2) (by rw [hel 2 (by omega)]; exact congrArg some (Prod.ext e2.symm rfl))
  have hall : cs.toList = (cs.toList.drop (0 * 4)).take 4 ++ (cs.toList.drop (1 * 4)).take 4 ++ (cs.toList.drop (2 * 4)).take 4 := by
    match hc : cs.toList, hlen with
    | [a, b, c, d, e, f, g, h, i, j, k, l], _ => rfl
  rw [r0, r1, r2] at hall
  apply Array.ext'
  rw [hall]; rfl

abbrev tableH {H : Type} : DataW H := Rows.laid_loop_example_g00662_impl_numberAfter

theorem reads_table {H : Type} (enc : TypeId × Value → H) (W : World) (sp : Nat → Bool) : DataW.trod enc Tryd.prog W 0 sp true 4 42 cells12.toList = some (tableH, []) := by kernel_rfl

theorem tab_of {W : World} (hvar : W.var? Tryd.prog name = some cells12) : Tab 0 W :=
  ⟨World.var?_cell gTab hvar 0, World.var?_cell gTab hvar 1, World.var?_cell gTab hvar 2, World.var?_cell gTab hvar 3, World.var?_cell gTab hvar 4, World.var?_cell gTab hvar 5,
   World.var?_cell gTab hvar 6, World.var?_cell gTab hvar 7, World.var?_cell gTab hvar 8, World.var?_cell gTab hvar 9, World.var?_cell gTab hvar 10, World.var?_cell gTab hvar 11⟩

theorem door_met (os : Os) (args : Array Value) : laidMetH Tryd.prog laid1 ((World.doorLaid Tryd.prog 400 os).forCall (fun _ _ => 0) ⟨#[], args, []⟩).memory :=
  laidMetH_of_parts3 (fuel := 8) (laidMet_of_run' 8 (by kernel_rfl) (by kernel_rfl)) (by kernel_rfl) (by kernel_rfl)

set_option maxRecDepth 100000 in
theorem lifted (os : Os) (started : os.Started) (H : Type) (enc : TypeId × Value → H) :
    ReturnsInHanded {} Tryd.checked os 5 .any (fun w args => (Rows.fnExactReadMarkSpec.pre enc Tryd.prog Tryd.f5 [] false w args ∧ laidMetH Tryd.prog laid1 w) ∧ sizedMet enc Tryd.prog Tryd.f5 (OpenSpec.ofChange Rows.fnExactReadMarkSpec) false w args)
      (Rows.fnExactReadMarkSpec.post enc Tryd.prog Tryd.f5 false true false false) := by
  refine returnsInHanded_of_change_and (C := Tryd.checked) (X := fun w _ => laidMetH Tryd.prog laid1 w) (fun _ _ _ hh h => h.of_heap hh) own started (by kernel_rfl) Tryd.func5
    (ChangeSpec.witness_shaped (enc := enc) (C := Tryd.checked) (os := os) (X := fun w _ => laidMetH Tryd.prog laid1 w) false (World.doorLaid Tryd.prog 400 os) #[.int .i64 0, .string ByteArray.empty] 8 rfl (World.shaped_of_RefB (by kernel_rfl) (by kernel_rfl)) (by kernel_rfl) (by kernel_rfl) (by kernel_rfl) (door_met os _)) ?_
  intro W base args ds gs before hval0 hW _ _ hL _
  have hval : ∀ (j : Nat) t v, Tryd.f5.params[j]? = some t → args[j]? = some v → Value.okWide Tryd.prog W .any base t v := hval0
  have hW' := hW
  obtain ⟨p, q, hA0, hV0, rfl, hfz, hnd⟩ := hW
  have hA : DataW.TrodAll enc Tryd.prog W 0 (fun _ => true) true Tryd.f5.params.toList args.toList ds p := hA0
  have hV : DataW.TrodVars enc Tryd.prog W (fun _ => true) [name] gs q := hV0
  rw [Tryd.params5] at hA hval
  obtain ⟨v0, vs0, d0, ds0, p0, q0, hargs, rfl, rfl, h0, r0⟩ := trodAll_cons hA
  obtain ⟨v1, vs1, d1, ds1, p1, q1, rfl, rfl, rfl, h1, r1⟩ := trodAll_cons r0
  obtain ⟨rfl, rfl, rfl⟩ := trodAll_nil r1
  obtain rfl : args = #[v0, v1] := by cases args; simp_all
  obtain ⟨a0, rfl, rfl, rfl, w0⟩ := open_int Tryd.underlying3 (hval 0 3 v0 rfl rfl) h0
  obtain ⟨a1, rfl, rfl, rfl, w1⟩ := open_string Tryd.underlying9 (hval 1 9 v1 rfl rfl) h1
  obtain ⟨g, t, cs, fuel, d, p', rfl, hg, ht, hvar, hd, rfl⟩ := trodVars_one hV
  obtain rfl := Option.some.inj (gTab.symm.trans hg)
  obtain rfl := Option.some.inj (tTab.symm.trans ht)
  obtain rfl : cs = cells12 := Option.some.inj (hvar.symm.trans (cells_of_laid hL))
  obtain ⟨rfl, rfl⟩ := DataW.Trod.unique (v := .agg cells12) ⟨fuel, hd⟩ ⟨4, reads_table enc W _⟩
  clear hA0 hV0 hval0
  refine (readLaw a0 a1 W (tab_of hvar) w1).mono fun e W' ⟨he, bel⟩ => ?_
  subst he
  have hvar' : W'.var? Tryd.prog name = some cells12 := var?_below bel gTab (by have := block_lt_of_cell (tab_of hvar).1; simpa using this) hvar
  exact ⟨_, rfl, _, _, _, [], [], MemPlace.row ⟨0, 0, none⟩ cells12.size ++ [] ++ [], hW', trodAll_mk1 (shut_bool Tryd.underlying4 _), trodAll_cons_mk (shut_int Tryd.underlying3 w0) (trodAll_cons_mk (shut_string Tryd.underlying9 w1) trodAll_mk0), ⟨0, 42, cells12, 4, [], [], hg, ht, hvar', reads_table enc W' _, rfl, rfl⟩, bel.frame _, fun h => by cases h⟩

theorem over : Rows.FnExactReadMarkSaid :=
  OpenClaim.holds_of_wide 5 Tryd.f5 rfl rfl rfl rfl rfl rfl rfl ⟨rfl, rfl, rfl, rfl, rfl⟩ rfl rfl rfl rfl rfl (by kernel_rfl) Tryd.func5 (by kernel_rfl)
    (of_decide_eq_true (by kernel_rfl)) (by unfold Func.isWrapper; first | (rw [if_pos (by decide +kernel)]; kernel_rfl) | (rw [if_neg (by decide +kernel)]; exact ⟨rfl, rfl⟩))
    (fun os started H enc _ => lifted os started H enc)

theorem card : Rows.FnExactReadMarkCardSaid :=
  Claim7.holds_tied_plain_at .later [] [.data] true (true, "3a5d5c74659e9536a5f72179040d3d4eb29ad3f15667a9f6e702ec91b6d948ca") false
    over (fun _ h => by cases h) (by kernel_rfl) (fun _ h => by cases h) fnExactReadMark_row_tie rfl ⟨rfl, rfl⟩ (by kernel_rfl) rfl
    (fun f fn hf hfn => by
      obtain rfl : f = 5 := Option.some.inj ((show Tryd.prog.funcNamed "loop.example/g00662/laws.FnExactReadMark" = some 5 by kernel_rfl).symm.trans hf) |>.symm
      obtain rfl : fn = Tryd.f5 := (Option.some.inj (Tryd.func5.symm.trans hfn)).symm
      exact ⟨by kernel_rfl, fun j t ht => by
        rw [Tryd.params5] at ht
        have hm : t ∈ [3, 9] := by simpa using Array.mem_of_getElem? ht
        have hall : ([3, 9].all fun u => !Tryd.prog.wantsStandIn u) = true := by kernel_rfl
        exact (show Tryd.prog.wantsStandIn t = false by simpa using List.all_eq_true.1 hall t hm)⟩)
    (by kernel_rfl)
#print axioms card
end Go.Proofs.YtkpmpnbeedapgaaDoor.fnExactReadMark

namespace Go.Proofs.YtkpmpnbeedapgaaDoor
theorem fnExactReadMark_card_holds : Rows.FnExactReadMarkCardSaid := fnExactReadMark.card
end Go.Proofs.YtkpmpnbeedapgaaDoor
