/- Contracts that the proof stands on, one behind the other. -/
import Derived.Test.YtegabkegbhglfaaP14
import Derived.Deep.Cut
/- numbersWhere of the program, and its TakersOf and GiversOf. -/
namespace Go.Proofs.Ytegabkegbhglfaa
open Go.RowKit
set_option maxRecDepth 10000

theorem PartS.at2 {w : World} {B n k : Nat} {L : List (List Int)} (h : PartS w B (3 * n) (3 * n) L) (hk : k < n) :
    w.cell? ⟨B, k * 3, none⟩ = some (.int .u16 (maskL (L.getD (3 * k) []) : Int)) ∧ w.cell? ⟨B, k * 3 + 1, none⟩ = some (.int .u16 (maskL (L.getD (3 * k + 1) []) : Int)) ∧ w.cell? ⟨B, k * 3 + 2, none⟩ = some (.int .u16 (maskL (L.getD (3 * k + 2) []) : Int)) := by
  obtain ⟨C, h1, h2, h3⟩ := h
  refine ⟨?_, ?_, ?_⟩
  · rw [cell_of_row w B _ C _ _ h1, Nat.mul_comm]; exact h3 _ (by omega)
  · rw [cell_of_row w B _ C _ _ h1, Nat.mul_comm]; exact h3 _ (by omega)
  · rw [cell_of_row w B _ C _ _ h1, Nat.mul_comm]; exact h3 _ (by omega)

theorem own_grow {B : Nat} {w w' : World} {v : Value} {n : Nat} {l : List Value} (hown : w.ownsRow B 3 1 v n l) (hb : Below w.heap.size w w') : w'.ownsRow B 3 1 v n l := by
  refine ⟨hown.1, ?_⟩
  rcases hown.2 with h0 | ⟨g, cap, cur, e, h1, h2, h3⟩
  · exact .inl h0
  · exact .inr ⟨g, cap, cur, e, h1, (hb.block g (Array.getElem?_eq_some_iff.mp h2).1).trans h2, h3⟩

end Go.Proofs.Ytegabkegbhglfaa


/- The program's StepBack, for every net, mark and number in memory. -/
namespace Go.Proofs.Ytegabkegbhglfaa
open Go.RowKit
set_option maxRecDepth 10000

theorem exec_load_rowU {P : Program} {o : Oper} {a : Act} {w : World} (ty : TypeId) (x : Operand) (ho : o.op = .load ty x) (g : Nat) (hx : a.eval x = .pointer (some ⟨g, 0, none⟩)) (t : TypeId) (cs : Array Value) (fr : Nat × Nat) (d : TypeDesc) (hg : w.heap[g]? = some (.cells cs t fr))
    (hu : P.underlying ty = some d) (hd : (match d with | .struct _ | .array _ _ => true | _ => false) = true) (hi : (P.info? ty).map (·.size) = some cs.size) : (execOp a.eval o).run P w = .ok (.value (.agg cs)) w := by
  unfold execOp
  simp only [ho, hx, Instr.loadAt, Instr.sureAddr, Sem.run_bind, Sem.run_pure, Result.andThen_ok, run_loadVar_row w g t ty cs fr d hg hu hd hi]

theorem wpList_load_wantU {P : Program} {ops : Array Oper} {rest : List Oper} {o : Oper} {a : Act} {w : World} {Q : Exit → Act → World → Prop} (hw : Region.wanted o (yielded ops a.tmps) = true) (ty : TypeId) (x : Operand) (ho : o.op = .load ty x)
    (g : Nat) (hx : a.eval x = .pointer (some ⟨g, 0, none⟩)) (t : TypeId) (cs : Array Value) (n : Nat) (e : TypeId) (hg : w.heap[g]? = some (.cells cs t (0, 0)))
    (hu : P.underlying ty = some (.array n e)) (hi : (P.info? ty).map (·.size) = some cs.size)
    (h : wpList P ops Q rest (a.put o.dst (.agg cs)) w) : wpList P ops Q (o :: rest) a w :=
  BigFrame.wpList_want hw fun _ hK => wp_load_row ty x ho g hx t cs (0, 0) _ hg hu rfl hi (hK _ _ h)

theorem bkP_list (s0 s1 : Nat) (f : Nat → Int) (n : Nat) (hn : n ≤ 16) : listF (bkP s0 s1 f 16) n = listF (bkF s0 s1 f) n := by
  unfold listF
  apply List.map_congr_left
  intro i hi
  have : i < n := by simpa using hi
  unfold bkP; rw [if_pos (by omega)]
theorem bkP_over (s0 s1 : Nat) (f : Nat → Int) : overB (bkP s0 s1 f 16) 16 = overB (bkF s0 s1 f) 16 := by
  unfold overB
  rw [Bool.eq_iff_iff, List.any_eq_true, List.any_eq_true]
  constructor
  · rintro ⟨i, hi, h⟩
    refine ⟨i, hi, ?_⟩
    unfold bkP at h; rw [if_pos (by simpa using hi)] at h; exact h
  · rintro ⟨i, hi, h⟩
    refine ⟨i, hi, ?_⟩
    unfold bkP; rw [if_pos (by simpa using hi)]; exact h

theorem sblend_no {p : Int} {n : Nat} {L : List (List Int)} {ys : List Int} {t : Int} {w w' : World} (h : sbOk p n L ys t = false) (hb : Below w.heap.size w w') : LEnd (sbOk p n L ys t) (sbR p n L ys t) w (.returned (.tuple #[.slice none 0 0, .bool false])) w' := by
  refine ⟨none, w.heap.size, 0, by rw [h], ⟨?_, .inl rfl⟩, Nat.le_refl _, hb⟩
  rw [sbR_no h]; rfl

theorem sblend_yes {p : Int} {n : Nat} {L : List (List Int)} {ys : List Int} {t : Int} {w w' : World} {b m : Nat} (h : sbOk p n L ys t = true) (hl : ys.length = m) (hh : w'.heap[b]? = some (.cells (cellsOf (sbOf L ys t ys.length)) 3 (0, 0))) (hB : w.heap.size ≤ b) (hb : Below w.heap.size w w') :
    LEnd (sbOk p n L ys t) (sbR p n L ys t) w (.returned (.tuple #[.slice (some ⟨b, 0, none⟩) m m, .bool true])) w' := by
  have hr := sbR_yes h
  exact ⟨_, b, m, by rw [h], ⟨by rw [hr]; unfold sbOf; rw [sbL_len]; exact hl, .inr ⟨rfl, by rw [hr]; exact hh⟩⟩, hB, hb⟩

theorem wp_via4 {P : Program} {c : Code} {Q : Exit → Act → World → Prop} {a : Act} {w : World} (R : Act → Act → World → Prop) (h1 : c.wp P (fun e a' w' => e = .normal ∧ R a a' w') a w) (h2 : ∀ a' w', R a a' w' → Q .normal a' w') : c.wp P Q a w :=
  Code.wp_mono (fun e a' w' h => by obtain ⟨rfl, h⟩ := h; exact h2 a' w' h) h1

theorem cell_rowV {w : World} {b g : Nat} (h : b ≠ g) (D : Array Value) (k : Nat) : (w.setRow g D).cell? ⟨b, k, none⟩ = w.cell? ⟨b, k, none⟩ := by
  simp only [World.cell?]
  rw [setRow_otherW _ h _]

set_option maxHeartbeats 2000000 in
theorem implSB_any (p : Int) (a am : Option Addr) (n c nm cm : Nat) (L : List (List Int)) (ys : List Int) (t : Int) (w : World) (h : Lists w a (3 * n) L) (rm : Row w am nm ys) (hs : sizeN n L ≤ 1048576) (hnm : nm ≤ 1048576) :
    Calls Try.prog 46 #[.agg #[.int .i64 p, .slice a n c], .int .i64 t, .slice am nm cm] w fun e w' => LEnd (sbOk p n L ys t) (sbR p n L ys t) w e w' := by
  have hAl := below_al w (.cells #[.int .i64 p, .slice a n c] 39)
  have HT := hide (netTok_any p a am n c nm cm L ys _ (h.below hAl) (rm.below hAl) hs hnm)
  have HLY := hide rm.1
  have HB0 := hide hAl
  clear h rm hAl
  go_enter Try.func46, Try.ntmps46
  go_wp2_with fail
  refine HT.out.mono ?_
  rintro e w1 ⟨p', a', m', c', l, rfl, hx, hb⟩
  have hz := HB0.out.size
  have HB1 := hide (HB0.out.trans (hb.mono HB0.out.size))
  have hz1 := HB1.out.size
  have hA1 := below_al w1 (.cells #[.int .i64 p', .slice a' m' c'] 99)
  have hA2 := below_al (w1.alloc (.cells #[.int .i64 p', .slice a' m' c'] 99)) (.cells #[.int .u8 0, .int .u8 0, .int .u8 0, .int .u8 0, .int .u8 0, .int .u8 0, .int .u8 0, .int .u8 0, .int .u8 0, .int .u8 0, .int .u8 0, .int .u8 0, .int .u8 0, .int .u8 0, .int .u8 0, .int .u8 0] 82)
  have hs1 : (w1.alloc (.cells #[.int .i64 p', .slice a' m' c'] 99)).heap.size = w1.heap.size + 1 := by simp
  have hg0 := heap_alloc_new (w1.alloc (.cells #[.int .i64 p', .slice a' m' c'] 99)) (.cells #[.int .u8 0, .int .u8 0, .int .u8 0, .int .u8 0, .int .u8 0, .int .u8 0, .int .u8 0, .int .u8 0, .int .u8 0, .int .u8 0, .int .u8 0, .int .u8 0, .int .u8 0, .int .u8 0, .int .u8 0, .int .u8 0] 82)
  rw [hs1] at hg0
  clear hb HT HB0
  by_cases g1 : (netOk p n L && goodB p ys) = true
  rotate_left
  · have g1' : (netOk p n L && goodB p ys) = false := by simpa using g1
    have HN := hide (fun W (hW : Below w.heap.size w W) => sblend_no (w := w) (sbOk_no1 (t := t) g1') hW)
    rw [g1']
    have HBX := hide (below_setRow ((HB1.out.alloc HB1.out.size (.cells #[.int .i64 p', .slice a' m' c'] 99)).alloc (by simp; omega) (.cells #[.int .u8 0, .int .u8 0, .int .u8 0, .int .u8 0, .int .u8 0, .int .u8 0, .int .u8 0, .int .u8 0, .int .u8 0, .int .u8 0, .int .u8 0, .int .u8 0, .int .u8 0, .int .u8 0, .int .u8 0, .int .u8 0] 82)) (w1.heap.size + 1) (by omega) (packOf ys l))
    clear g1 g1' hx
    go_wp2_with ((show wpList _ _ _ (⟨none, .store 82 (.tmp 9) (.tmp 17), _, _, _, _⟩ :: _) _ _); refine wpList_store_row rfl 82 _ _ rfl _ _ rfl rfl 82 _ hg0 (by rw [packOf_size]; exact Try.size82) (by rw [packOf_size]; rfl) (packOf_one _ _) ?_)
    go_ret2
    exact HN.out _ HBX.out
  have hgg := g1
  rw [Bool.and_eq_true] at hgg
  obtain ⟨e1, e2, e3, e4, B, e5, e6, e7⟩ := hx.out g1
  subst e1 e2 e3 e4 e5
  rw [g1]
  have hAA := hA1.trans (hA2.mono hA1.size)
  have hBl : B < w1.heap.size := by obtain ⟨C, q1, _⟩ := e7; exact (Array.getElem?_eq_some_iff.mp q1).1
  have HPS := hide ((e7.grow hAA).setRow (show B ≠ w1.heap.size + 1 by omega) (packOf ys l))
  have hg1 := setRow_same hg0 (packOf ys l)
  have HTK := hide hg1
  have HBX := hide (below_setRow (HB1.out.trans (hAA.mono HB1.out.size)) (w1.heap.size + 1) (by omega) (packOf ys l))
  have HBU := hide (below_setRow hAA (w1.heap.size + 1) (by omega) (packOf ys l))
  have Q7 := keepR (keep (heap_alloc_new w1 (.cells #[.int .i64 p', .slice (some ⟨B, 0, none⟩) c' c'] 99)) hA2) (show w1.heap.size ≠ w1.heap.size + 1 by omega) (packOf ys l)
  obtain ⟨hq0, hq1⟩ := cells2 Q7
  have HQ7 := hide Q7
  have HGP := hide hgg
  have HG1 := hide g1
  clear e6 e7 hx hAA hA1 hA2 g1 hgg Q7
  have HLK := hide (lacks_any p' t (some ⟨B, 0, none⟩) c' c' (((w1.alloc (.cells #[.int .i64 p', .slice (some ⟨B, 0, none⟩) c' c'] 99)).alloc (.cells #[.int .u8 0, .int .u8 0, .int .u8 0, .int .u8 0, .int .u8 0, .int .u8 0, .int .u8 0, .int .u8 0, .int .u8 0, .int .u8 0, .int .u8 0, .int .u8 0, .int .u8 0, .int .u8 0, .int .u8 0, .int .u8 0] 82)).setRow (w1.heap.size + 1) (packOf ys l)))
  by_cases g2 : inB t 0 ((c' : Int) - 1) = true
  rotate_left
  · have g2' : inB t 0 ((c' : Int) - 1) = false := by simpa using g2
    have HN := hide (fun W (hW : Below w.heap.size w W) => sblend_no (w := w) (sbOk_no2 (p := p') (L := L) (ys := ys) g2') hW)
    rw [g2'] at HLK
    clear g2 g2'
    go_wp2_with ((show wpList _ _ _ (⟨none, .store 82 (.tmp 9) (.tmp 17), _, _, _, _⟩ :: _) _ _); refine wpList_store_row rfl 82 _ _ rfl _ _ rfl rfl 82 _ hg0 (by rw [packOf_size]; exact Try.size82) (by rw [packOf_size]; rfl) (packOf_one _ _) ?_)
    refine HLK.out.mono ?_
    rintro e w2 ⟨rfl, rfl⟩
    have HE := hide (HN.out _ (HBX.out.trans ((below_al _ (.cells #[.int .i64 p', .slice (some ⟨B, 0, none⟩) c' c'] 99)).mono HBX.out.size)))
    go_wp2_with fail
    go_ret2
    exact HE.out
  have ht : 0 ≤ t ∧ t ≤ (c' : Int) - 1 := by simpa [inB] using g2
  have HG2 := hide g2
  rw [g2] at HLK
  obtain ⟨k, rfl⟩ : ∃ k : Nat, t = (k : Int) := ⟨t.toNat, by omega⟩
  have hkn : k < c' := by omega
  have hkn' : (k : Int) < (c' : Int) := by omega
  have hk0 : (0 : Int) ≤ (k : Int) := by omega
  have hc24 : c' ≤ 24 := netOkN HGP.out.1
  clear g2
  go_upto_region 4 with (first | ((show wpList _ _ _ (⟨none, .store 82 (.tmp 9) (.tmp 17), _, _, _, _⟩ :: _) _ _); refine wpList_store_row rfl 82 _ _ rfl _ _ rfl rfl 82 _ hg0 (by rw [packOf_size]; exact Try.size82) (by rw [packOf_size]; rfl) (packOf_one _ _) ?_) | (go_at_call 81; refine HLK.out.mono ?_; rintro e w2 ⟨rfl, rfl⟩))
  clear hg0 hg1 hq0 hq1 hs1 HLK
  generalize ((w1.alloc (.cells #[.int .i64 p', .slice (some ⟨B, 0, none⟩) c' c'] 99)).alloc (.cells #[.int .u8 0, .int .u8 0, .int .u8 0, .int .u8 0, .int .u8 0, .int .u8 0, .int .u8 0, .int .u8 0, .int .u8 0, .int .u8 0, .int .u8 0, .int .u8 0, .int .u8 0, .int .u8 0, .int .u8 0, .int .u8 0] 82)).setRow (w1.heap.size + 1) (packOf ys l) = v0 at *
  have hA := below_al v0 (.cells #[.int .i64 p', .slice (some ⟨B, 0, none⟩) c' c'] 99)
  have hdr : Below (v0.alloc (.cells #[.int .i64 p', .slice (some ⟨B, 0, none⟩) c' c'] 99)).heap.size (v0.alloc (.cells #[.int .i64 p', .slice (some ⟨B, 0, none⟩) c' c'] 99)) (v0.alloc (.cells #[.int .i64 p', .slice (some ⟨B, 0, none⟩) c' c'] 99)).drew := (Below.refl _ _).drew
  have hA2 := hA.trans (hdr.mono hA.size)
  have HPS2 := hide (HPS.out.grow hA2)
  have HTK2 := hide (keep HTK.out hA2)
  have HQ2 := hide (keep HQ7.out hA2)
  have HBX2 := hide (HBX.out.trans (hA2.mono HBX.out.size))
  have hz2 : w1.heap.size + 1 < (v0.alloc (.cells #[.int .i64 p', .slice (some ⟨B, 0, none⟩) c' c'] 99)).drew.heap.size := row_lt HTK2.out
  have hwz : w.heap.size ≤ (v0.alloc (.cells #[.int .i64 p', .slice (some ⟨B, 0, none⟩) c' c'] 99)).drew.heap.size := HBX2.out.size
  obtain ⟨s0, hs0⟩ : ∃ x, Hid (maskL (L.getD (3 * k) []) = x) := ⟨_, rfl⟩
  obtain ⟨s1, hs1⟩ : ∃ x, Hid (maskL (L.getD (3 * k + 1) []) = x) := ⟨_, rfl⟩
  obtain ⟨s2, hs2⟩ : ∃ x, Hid (maskL (L.getD (3 * k + 2) []) = x) := ⟨_, rfl⟩
  obtain ⟨⟨hp1, hp2⟩, hlp, hyb⟩ := goodB_parts HGP.out.2
  have htri := tri_rise (triOkOf HGP.out.1 hkn)
  have hl16 : l ≤ 16 := by have := HLY.out; omega
  have hpl : p' = (l : Int) := by have := HLY.out; omega
  have HS0 : Hid (s0 < 2 ^ 16) := by rw [← hs0.out]; exact mask16' htri.1 ⟨hp1, hp2⟩
  have HS1 : Hid (s1 < 2 ^ 16) := by rw [← hs1.out]; exact mask16' htri.2.1 ⟨hp1, hp2⟩
  have HS2 : Hid (s2 < 2 ^ 16) := by rw [← hs2.out]; exact mask16' htri.2.2 ⟨hp1, hp2⟩
  have HFS : Hid (∀ i, 0 ≤ fOf ys l i ∧ fOf ys l i ≤ 50) := by
    intro i; unfold fOf; split
    · exact hyb i
    · omega
  have hin : inOf L (k : Int) = L.getD (3 * k) [] := by unfold inOf; rw [Int.toNat_natCast]
  have hout : outOf L (k : Int) = L.getD (3 * k + 1) [] := by unfold outOf; rw [Int.toNat_natCast]
  have hres : resOf L (k : Int) = L.getD (3 * k + 2) [] := by unfold resOf; rw [Int.toNat_natCast]
  -- by sets as by lists
  have HOK : Hid (bkOk s1 s2 (fOf ys l) 16 = sbCan L ys (k : Int) ys.length) := by
    show _ = sbOkL _ _ _ _
    rw [hout, hres, HLY.out, ← hs1.out, ← hs2.out]
    exact sb_ok ⟨hp1, hp2⟩ hpl.symm hyb htri.2.1 htri.2.2
  have HGD : Hid (sbCan L ys (k : Int) ys.length = true → goodB p' (sbOf L ys (k : Int) ys.length) = !overB (bkP s0 s1 (fOf ys l) 16) 16) := by
    intro h
    have h' : sbOkL (outOf L (k : Int)) (resOf L (k : Int)) ys ys.length = true := h
    rw [hout, hres, HLY.out] at h'
    show goodB p' (sbL _ _ _ _ _) = _
    rw [bkP_over, hin, hout, hres, HLY.out, ← hs0.out, ← hs1.out]
    exact sb_good ⟨hp1, hp2⟩ hpl.symm HLY.out hyb htri.1 htri.2.1 htri.2.2 h'
  have HLI : Hid (sbCan L ys (k : Int) ys.length = true → listF (bkP s0 s1 (fOf ys l) 16) l = sbOf L ys (k : Int) ys.length) := by
    intro h
    have h' : sbOkL (outOf L (k : Int)) (resOf L (k : Int)) ys ys.length = true := h
    rw [hout, hres, HLY.out] at h'
    show _ = sbL _ _ _ _ _
    rw [bkP_list _ _ _ _ hl16, hin, hout, hres, HLY.out, ← hs0.out, ← hs1.out]
    exact sb_list hpl.symm hyb htri.1 htri.2.1 htri.2.2 h'
  have HEN : Hid (∀ W, Below w.heap.size w W → bkOk s1 s2 (fOf ys l) 16 = false → LEnd (sbOk p' c' L ys (k : Int)) (sbR p' c' L ys (k : Int)) w (.returned (.tuple #[.slice none 0 0, .bool false])) W) := fun W hW h => sblend_no (sbOk_no3 (HOK.out.symm.trans h)) hW
  have HEV : Hid (∀ W, Below w.heap.size w W → bkOk s1 s2 (fOf ys l) 16 = true → overB (bkP s0 s1 (fOf ys l) 16) 16 = true → LEnd (sbOk p' c' L ys (k : Int)) (sbR p' c' L ys (k : Int)) w (.returned (.tuple #[.slice none 0 0, .bool false])) W) := fun W hW h ho => sblend_no (sbOk_no4 ((HGD.out (HOK.out.symm.trans h)).trans (by rw [ho]; rfl))) hW
  have HEY : Hid (∀ W b, Below w.heap.size w W → bkOk s1 s2 (fOf ys l) 16 = true → overB (bkP s0 s1 (fOf ys l) 16) 16 = false → W.heap[b]? = some (.cells (cellsOf (listF (bkP s0 s1 (fOf ys l) 16) l)) 3 (0, 0)) → w.heap.size ≤ b → LEnd (sbOk p' c' L ys (k : Int)) (sbR p' c' L ys (k : Int)) w (.returned (.tuple #[.slice (some ⟨b, 0, none⟩) l l, .bool true])) W) := fun W b hW h ho hh hb =>
    sblend_yes (sbOk_yes HG1.out HG2.out (HOK.out.symm.trans h) ((HGD.out (HOK.out.symm.trans h)).trans (by rw [ho]; rfl))) HLY.out (by rw [← HLI.out (HOK.out.symm.trans h)]; exact hh) hb hW
  obtain ⟨hc0, hc1, hc2⟩ := HPS2.out.at' hkn
  rw [hs0.out] at hc0
  rw [hs1.out] at hc1
  rw [hs2.out] at hc2
  have hcn : (v0.alloc (.cells #[.int .i64 p', .slice (some ⟨B, 0, none⟩) c' c'] 99)).drew.cell? ⟨w1.heap.size, 1, none⟩ = some (.slice (some ⟨B, 0, none⟩) c' c') := (cells2 HQ2.out).2
  have HSW : Hid (∀ W, Below (v0.alloc (.cells #[.int .i64 p', .slice (some ⟨B, 0, none⟩) c' c'] 99)).drew.heap.size (v0.alloc (.cells #[.int .i64 p', .slice (some ⟨B, 0, none⟩) c' c'] 99)).drew W → W.cell? ⟨w1.heap.size, 1, none⟩ = some (.slice (some ⟨B, 0, none⟩) c' c') ∧ W.cell? ⟨B, k * 3, none⟩ = some (.int .u16 (s0 : Int)) ∧ W.cell? ⟨B, k * 3 + 1, none⟩ = some (.int .u16 (s1 : Int)) ∧ W.cell? ⟨B, k * 3 + 2, none⟩ = some (.int .u16 (s2 : Int)) ∧ W.heap[w1.heap.size + 1]? = some (.cells (packOf ys l) 82 (0, 0))) := fun W hW =>
    ⟨(hW.cell (p := ⟨w1.heap.size, 1, none⟩) (by show w1.heap.size < _; omega)).trans hcn, (hW.cell (p := ⟨B, k * 3, none⟩) (by show B < _; omega)).trans hc0, (hW.cell (p := ⟨B, k * 3 + 1, none⟩) (by show B < _; omega)).trans hc1, (hW.cell (p := ⟨B, k * 3 + 2, none⟩) (by show B < _; omega)).trans hc2, keep HTK2.out hW⟩
  clear hA hdr hA2 hcn hc0 hc1 hc2 HPS HPS2 HQ7 HTK HTK2 HBX HBU HGP HG1 HG2 HOK HGD HLI htri hyb hs0 hs1 hs2 hin hout hres hlp hp1 hp2 hz hz1 HB1
  obtain ⟨ob, hob⟩ : ∃ b, Hid (bkOk s1 s2 (fOf ys l) 16 = b) := ⟨_, rfl⟩
  rw [hob.out] at HEN HEV HEY
  refine wp_via4 (fun a0 a' W => ∃ h g, Hid ((ob = true → h = bkP s0 s1 (fOf ys l) 16) ∧ (v0.alloc (.cells #[.int .i64 p', .slice (some ⟨B, 0, none⟩) c' c'] 99)).drew.heap.size ≤ g ∧ W.heap[g]? = some (.cells (tokF h) 82 (0, 0)) ∧ Below (v0.alloc (.cells #[.int .i64 p', .slice (some ⟨B, 0, none⟩) c' c'] 99)).drew.heap.size (v0.alloc (.cells #[.int .i64 p', .slice (some ⟨B, 0, none⟩) c' c'] 99)).drew W) ∧ a' = ((((((((((((a0.put (some 27) (.pointer (some ⟨w1.heap.size, 1, none⟩))).put (some 28) (.slice (some ⟨B, 0, none⟩) c' c')).put (some 29) (.int .i64 (k : Int))).put (some 30) (.pointer (some ⟨B, k * 3, none⟩))).put (some 31) (.agg #[.int .u16 (s0 : Int), .int .u16 (s1 : Int), .int .u16 (s2 : Int)])).put (some 32) (.agg (packOf ys l))).put (some 33) (.tuple #[.agg (tokF h), .bool ob])).put (some 26) (.tuple #[.agg (tokF h), .bool ob])).put (some 34) (.agg (tokF h))).put (some 35) (.bool ob)).put (some 11) (.pointer (some ⟨g, 0, none⟩))).put (some 10) (.bool ob))) ?_ ?_
  · refine wp_region_held_drew (S := fun W => W.cell? ⟨w1.heap.size, 1, none⟩ = some (.slice (some ⟨B, 0, none⟩) c' c') ∧ W.cell? ⟨B, k * 3, none⟩ = some (.int .u16 (s0 : Int)) ∧ W.cell? ⟨B, k * 3 + 1, none⟩ = some (.int .u16 (s1 : Int)) ∧ W.cell? ⟨B, k * 3 + 2, none⟩ = some (.int .u16 (s2 : Int)) ∧ W.heap[w1.heap.size + 1]? = some (.cells (packOf ys l) 82 (0, 0))) (by kernel_rfl) (HSW.out _ (Below.refl _ _)) (fun hHeld => ?_)
    have hSv := HSW.out _ (Below.refl _ _)
    clear hHeld HEN HEV HEY
    generalize (v0.alloc (.cells #[.int .i64 p', .slice (some ⟨B, 0, none⟩) c' c'] 99)).drew = v3 at *
    clear v0
    refine take_yes (i := 0) (some 27) (.pointer (some ⟨w1.heap.size, 1, none⟩)) rfl rfl (by kernel_rfl) (by kernel_rfl) (by kernel_rfl) (fun _ _ _ h => by cases h.1) (by rfl) ?_ (by assumption) ?_
    · intro W' hSw
      obtain ⟨hz1, hz2, hz3, hz4, hz5⟩ := hSw
      go_simp
    simp only [Act.put, List.setIfInBounds_toArray, List.set_cons_zero, List.set_cons_succ]
    refine take_yes (i := 1) (some 28) (.slice (some ⟨B, 0, none⟩) c' c') rfl rfl (by kernel_rfl) (by kernel_rfl) (by kernel_rfl) (fun _ _ _ h => by cases h.1) (by rfl) ?_ (by assumption) ?_
    · intro W' hSw
      obtain ⟨hz1, hz2, hz3, hz4, hz5⟩ := hSw
      go_simp
    simp only [Act.put, List.setIfInBounds_toArray, List.set_cons_zero, List.set_cons_succ]
    refine take_yes (i := 2) (some 29) (.int .i64 (k : Int)) rfl rfl (by kernel_rfl) (by kernel_rfl) (by kernel_rfl) (fun _ _ _ h => by cases h.1) (by rfl) ?_ (by assumption) ?_
    · intro W' hSw
      obtain ⟨hz1, hz2, hz3, hz4, hz5⟩ := hSw
      go_simp
    simp only [Act.put, List.setIfInBounds_toArray, List.set_cons_zero, List.set_cons_succ]
    refine take_yes (i := 3) (some 30) (.pointer (some ⟨B, k * 3, none⟩)) rfl rfl (by kernel_rfl) (by kernel_rfl) (by kernel_rfl) (fun _ _ _ h => by cases h.1) (by rfl) ?_ (by assumption) ?_
    · intro W' hSw
      obtain ⟨hz1, hz2, hz3, hz4, hz5⟩ := hSw
      go_simp
    simp only [Act.put, List.setIfInBounds_toArray, List.set_cons_zero, List.set_cons_succ]
    refine take_yes (i := 4) (some 31) (.agg #[.int .u16 (s0 : Int), .int .u16 (s1 : Int), .int .u16 (s2 : Int)]) rfl rfl (by kernel_rfl) (by kernel_rfl) (by kernel_rfl) (fun _ _ _ h => by cases h.1) (by rfl) ?_ (by assumption) ?_
    · intro W' hSw
      obtain ⟨hz1, hz2, hz3, hz4, hz5⟩ := hSw
      go_simp
    simp only [Act.put, List.setIfInBounds_toArray, List.set_cons_zero, List.set_cons_succ]
    refine take_yes (i := 5) (some 32) (.agg (packOf ys l)) rfl rfl (by kernel_rfl) (by kernel_rfl) (by kernel_rfl) (fun _ _ _ h => by cases h.1) (by rfl) ?_ (by assumption) ?_
    · intro W' hSw
      obtain ⟨hz1, hz2, hz3, hz4, hz5⟩ := hSw
      exact exec_load_rowU 82 _ rfl _ rfl 82 _ _ _ hz5 Try.underlying82 rfl (by rw [packOf_size]; exact Try.size82)
    simp only [Act.put, List.setIfInBounds_toArray, List.set_cons_zero, List.set_cons_succ]

    refine wpAnyH_ready (rs := [6, 10]) (by kernel_rfl) (by simp) (AllReadyH.cons rfl (fun K hK => ?_) (AllReadyH.cons rfl (fun K hK => ?_) AllReadyH.nil))
    · rw [if_pos (by rfl)]
      refine oper_call rfl 99 _ _ _ rfl Try.func99 (by decide) rfl #[.agg #[.int .u16 (s0 : Int), .int .u16 (s1 : Int), .int .u16 (s2 : Int)], .agg (tokF (fOf ys l))] (mapw2 _ _ _ _ _ rfl rfl) _ (beforeI_any s0 s1 s2 (fOf ys l) v3 HS0.out HS1.out HS2.out HFS.out) ?_
      rintro e w4 ⟨h, rfl, hh, hb4⟩
      rw [hob.out] at hh ⊢
      have hS4 := HSW.out _ hb4
      refine ⟨_, rfl, hK.out _ _ hS4 (fun _ => ?_)⟩
      clear hK K
      simp only [Act.put]
      refine take_yes (i := 7) (some 26) (.tuple #[.agg (tokF h), .bool ob]) rfl rfl (by kernel_rfl) (by kernel_rfl) (by kernel_rfl) (fun _ _ _ h => by cases h.1) (by rfl) ?_ (by assumption) ?_
      · intro W' hSw
        obtain ⟨hz1, hz2, hz3, hz4, hz5⟩ := hSw
        go_simp
      simp only [Act.put]
      refine take_yes (i := 8) (some 34) (.agg (tokF h)) rfl rfl (by kernel_rfl) (by kernel_rfl) (by kernel_rfl) (fun _ _ _ h => by cases h.1) (by rfl) ?_ (by assumption) ?_
      · intro W' hSw
        obtain ⟨hz1, hz2, hz3, hz4, hz5⟩ := hSw
        go_simp
      simp only [Act.put]
      refine take_yes (i := 9) (some 35) (.bool ob) rfl rfl (by kernel_rfl) (by kernel_rfl) (by kernel_rfl) (fun _ _ _ h => by cases h.1) (by rfl) ?_ (by assumption) ?_
      · intro W' hSw
        obtain ⟨hz1, hz2, hz3, hz4, hz5⟩ := hSw
        go_simp
      simp only [Act.put]

      have hA5 := below_al w4 (.cells #[.int .u8 0, .int .u8 0, .int .u8 0, .int .u8 0, .int .u8 0, .int .u8 0, .int .u8 0, .int .u8 0, .int .u8 0, .int .u8 0, .int .u8 0, .int .u8 0, .int .u8 0, .int .u8 0, .int .u8 0, .int .u8 0] 82)
      have hb5 := hb4.trans (hA5.mono hb4.size)
      have hg0 := heap_alloc_new w4 (.cells #[.int .u8 0, .int .u8 0, .int .u8 0, .int .u8 0, .int .u8 0, .int .u8 0, .int .u8 0, .int .u8 0, .int .u8 0, .int .u8 0, .int .u8 0, .int .u8 0, .int .u8 0, .int .u8 0, .int .u8 0, .int .u8 0] 82)
      have hS5 := HSW.out _ hb5
      refine wpAnyH_ready (rs := [10]) (by kernel_rfl) (by simp) (AllReadyH.cons rfl (fun K hK => ?_) AllReadyH.nil)
      rw [if_pos (by rfl)]
      refine oper_val (d := some 11) rfl (v := .pointer (some ⟨w4.heap.size, 0, none⟩)) (w' := w4.alloc (.cells #[.int .u8 0, .int .u8 0, .int .u8 0, .int .u8 0, .int .u8 0, .int .u8 0, .int .u8 0, .int .u8 0, .int .u8 0, .int .u8 0, .int .u8 0, .int .u8 0, .int .u8 0, .int .u8 0, .int .u8 0, .int .u8 0] 82)) (by go_simp) (hK.out _ _ hS5 (fun _ => ?_))
      clear hK K
      simp only [Act.put]
      have hb6 := below_setRow hb5 w4.heap.size hb4.size (tokF h)
      have hS6 := HSW.out _ hb6
      refine store_next (i := 11) rfl rfl (by kernel_rfl) (by rfl) 82 _ _ rfl w4.heap.size (tokF h) rfl rfl 82 _ hg0 (by rw [tokF_size]; exact Try.size82) (by rw [tokF_size]; rfl) (tokF_one _) hS6 (fun _ => ?_)
      refine take_yes (i := 12) (some 10) (.bool ob) rfl rfl (by kernel_rfl) (by kernel_rfl) (by kernel_rfl) (fun _ _ _ h => by cases h.1) (by rfl) ?_ (by assumption) ?_
      · intro W' hSw
        obtain ⟨hz1, hz2, hz3, hz4, hz5⟩ := hSw
        go_simp
      simp only [Act.put]

      refine wpAnyH_done (by kernel_rfl) ?_ _
      exact ⟨rfl, h, w4.heap.size, ⟨hh.out, hb4.size, setRow_same hg0 _, hb6⟩, rfl⟩
    · rw [if_pos (by rfl)]
      have hA5 := below_al v3 (.cells #[.int .u8 0, .int .u8 0, .int .u8 0, .int .u8 0, .int .u8 0, .int .u8 0, .int .u8 0, .int .u8 0, .int .u8 0, .int .u8 0, .int .u8 0, .int .u8 0, .int .u8 0, .int .u8 0, .int .u8 0, .int .u8 0] 82)
      have hS5 := HSW.out _ hA5
      have hgz := heap_alloc_new v3 (.cells #[.int .u8 0, .int .u8 0, .int .u8 0, .int .u8 0, .int .u8 0, .int .u8 0, .int .u8 0, .int .u8 0, .int .u8 0, .int .u8 0, .int .u8 0, .int .u8 0, .int .u8 0, .int .u8 0, .int .u8 0, .int .u8 0] 82)
      refine oper_val (d := some 11) rfl (v := .pointer (some ⟨v3.heap.size, 0, none⟩)) (w' := v3.alloc (.cells #[.int .u8 0, .int .u8 0, .int .u8 0, .int .u8 0, .int .u8 0, .int .u8 0, .int .u8 0, .int .u8 0, .int .u8 0, .int .u8 0, .int .u8 0, .int .u8 0, .int .u8 0, .int .u8 0, .int .u8 0, .int .u8 0] 82)) (by go_simp) (hK.out _ _ hS5 (fun _ => ?_))
      clear hK K
      simp only [Act.put]
      refine call_next (i := 6) (some 33) rfl rfl (by kernel_rfl) (by rfl) 99 _ _ _ rfl Try.func99 (by decide) rfl #[.agg #[.int .u16 (s0 : Int), .int .u16 (s1 : Int), .int .u16 (s2 : Int)], .agg (tokF (fOf ys l))] (mapw2 _ _ _ _ _ rfl rfl) _ (beforeI_any s0 s1 s2 (fOf ys l) _ HS0.out HS1.out HS2.out HFS.out) ?_
      rintro e w4 ⟨h, rfl, hh, hb4⟩
      rw [hob.out] at hh ⊢
      have hb5 := hA5.trans (hb4.mono hA5.size)
      have hS4 := HSW.out _ hb5
      have hg0 := keep hgz hb4
      refine ⟨_, rfl, hS4, fun _ => ?_⟩
      simp only [Act.put]
      refine take_yes (i := 7) (some 26) (.tuple #[.agg (tokF h), .bool ob]) rfl rfl (by kernel_rfl) (by kernel_rfl) (by kernel_rfl) (fun _ _ _ h => by cases h.1) (by rfl) ?_ (by assumption) ?_
      · intro W' hSw
        obtain ⟨hz1, hz2, hz3, hz4, hz5⟩ := hSw
        go_simp
      simp only [Act.put]
      refine take_yes (i := 8) (some 34) (.agg (tokF h)) rfl rfl (by kernel_rfl) (by kernel_rfl) (by kernel_rfl) (fun _ _ _ h => by cases h.1) (by rfl) ?_ (by assumption) ?_
      · intro W' hSw
        obtain ⟨hz1, hz2, hz3, hz4, hz5⟩ := hSw
        go_simp
      simp only [Act.put]
      refine take_yes (i := 9) (some 35) (.bool ob) rfl rfl (by kernel_rfl) (by kernel_rfl) (by kernel_rfl) (fun _ _ _ h => by cases h.1) (by rfl) ?_ (by assumption) ?_
      · intro W' hSw
        obtain ⟨hz1, hz2, hz3, hz4, hz5⟩ := hSw
        go_simp
      simp only [Act.put]

      have hb6 := below_setRow hb5 v3.heap.size (Nat.le_refl _) (tokF h)
      have hS6 := HSW.out _ hb6
      refine store_next (i := 11) rfl rfl (by kernel_rfl) (by rfl) 82 _ _ rfl v3.heap.size (tokF h) rfl rfl 82 _ hg0 (by rw [tokF_size]; exact Try.size82) (by rw [tokF_size]; rfl) (tokF_one _) hS6 (fun _ => ?_)
      refine take_yes (i := 12) (some 10) (.bool ob) rfl rfl (by kernel_rfl) (by kernel_rfl) (by kernel_rfl) (fun _ _ _ h => by cases h.1) (by rfl) ?_ (by assumption) ?_
      · intro W' hSw
        obtain ⟨hz1, hz2, hz3, hz4, hz5⟩ := hSw
        go_simp
      simp only [Act.put]

      refine wpAnyH_done (by kernel_rfl) ?_ _
      exact ⟨rfl, h, v3.heap.size, ⟨hh.out, Nat.le_refl _, setRow_same hg0 _, hb6⟩, rfl⟩
  · rintro a' w5 ⟨h, g, hfacts, rfl⟩
    obtain ⟨hh, hgz, hg5, hb5⟩ := hfacts.out
    have HB5 := hide (HBX2.out.trans (hb5.mono HBX2.out.size))
    have HQ5 := hide (keep HQ2.out hb5)
    have hgl := row_lt hg5
    have HH := hide hh
    clear HBX2 HQ2 HSW hfacts hb5 hgz hz2 hwz hh
    clear v0
    simp only [Act.put, List.setIfInBounds_toArray, List.set_cons_zero, List.set_cons_succ]
    cases ob
    · have HE := hide (HEN.out _ HB5.out (by trivial))
      clear HEN HEV HEY HH hob HQ5 hg5 hgl
      go_wp2_with fail
      go_ret2
      exact HE.out
    have hh2 := HH.out rfl
    subst hh2
    have HSM : Hid (∀ i, 0 ≤ bkP s0 s1 (fOf ys l) 16 i ∧ bkP s0 s1 (fOf ys l) 16 i ≤ 51) := fun i => bkP_pos HFS.out 16 i
    clear HH hob HEN
    generalize bkP s0 s1 (fOf ys l) 16 = F at *
    have HOV := hide (overI_any F w5 HSM.out)
    obtain ⟨ov, hov⟩ : ∃ b, Hid (overB F 16 = b) := ⟨_, rfl⟩
    rw [hov.out] at HOV HEV HEY
    have hA6 := below_al w5 (.cells (tokF F) 82)
    have HB6 := hide (HB5.out.trans (hA6.mono HB5.out.size))
    have HQ6 := hide (keep HQ5.out hA6)
    have hg6 := keep hg5 hA6
    clear hA6 HQ5 HB5
    have hu := Try.underlying82
    have HLS := hide (list_any F l (w5.alloc (.cells (tokF F) 82)) hl16 (fun i => by have := HSM.out i; omega))
    obtain ⟨hq0, hq1⟩ := cells2 HQ6.out
    have hlq := row_lt HQ6.out
    cases ov
    · go_wp2_with (first
        | ((show wpList _ _ _ (⟨some 39, .load 82 (.tmp 11), _, _, _, _⟩ :: _) _ _); refine wpList_load_wantU (by simp [Region.wanted, yielded]) 82 (.tmp 11) rfl _ rfl 82 (tokF F) _ _ hg5 hu (by rw [tokF_size]; exact Try.size82) ?_)
        | (go_at_call 100; refine HOV.out.mono ?_; rintro e w6 ⟨rfl, rfl⟩)
        | ((show wpList _ _ _ (⟨some 42, .load 82 (.tmp 11), _, _, _, _⟩ :: _) _ _); refine wpList_load_row rfl 82 (.tmp 11) rfl _ rfl 82 (tokF F) (0, 0) _ hg6 Try.underlying82 rfl (by rw [tokF_size]; exact Try.size82) ?_))
      generalize w5.alloc (.cells (tokF F) 82) = v6 at *
      refine HLS.out.mono ?_
      rintro e w7 ⟨rfl, rfl⟩
      have HE := hide (HEY.out _ (v6.heap.size + 1) (HB6.out.trans ((below_two v6 (.cells (tokF F) 82) (.cells (cellsOf (listF F l)) 3)).mono HB6.out.size)) (by trivial) (by trivial) (heap_alloc2_new v6 (.cells (tokF F) 82) (.cells (cellsOf (listF F l)) 3)) (by have := HB6.out.size; omega))
      clear HLS HEY HEV
      go_wp2_with fail
      go_ret2
      exact HE.out
    · have HE := hide (HEV.out _ HB6.out (by trivial) (by trivial))
      go_wp2_with (first
        | ((show wpList _ _ _ (⟨some 39, .load 82 (.tmp 11), _, _, _, _⟩ :: _) _ _); refine wpList_load_wantU (by simp [Region.wanted, yielded]) 82 (.tmp 11) rfl _ rfl 82 (tokF F) _ _ hg5 hu (by rw [tokF_size]; exact Try.size82) ?_)
        | (go_at_call 100; refine HOV.out.mono ?_; rintro e w6 ⟨rfl, rfl⟩))
      go_ret2
      exact HE.out
end Go.Proofs.Ytegabkegbhglfaa


/- The specification's step back, l6Step and StepBack, for every net, mark and number in memory. -/
namespace Go.Proofs.Ytegabkegbhglfaa
open Go.RowKit
set_option maxRecDepth 10000

theorem mostU_any (a b : Int) (w : World) : Calls Try.prog 93 #[.int .i64 a, .int .i64 b] w fun e w' => e = .returned (.int .i64 (if b < a then a else b)) ∧ w' = w := by
  by_cases h : b < a
  · rw [if_pos h]
    go_enter Try.func93, Try.ntmps93
    go_wp2_with fail
    go_ret
    exact ⟨rfl, rfl⟩
  · rw [if_neg h]
    go_enter Try.func93, Try.ntmps93
    go_wp2_with fail
    go_ret
    exact ⟨rfl, rfl⟩

/-- How l6Step ends. -/
def StpEnd (ok : Bool) (r : List Int) (w : World) (e : Ending) (w' : World) : Prop :=
  ∃ a n c, e = .returned (.tuple #[.slice a n c, .bool ok]) ∧ Hid (ok = true → Row w' a n r) ∧ Below w.heap.size w w'

theorem stpEnd_no {ok : Bool} {r : List Int} {w w' : World} (h : ok = false) (hb : Below w.heap.size w w') : StpEnd ok r w (.returned (.tuple #[.slice none 0 0, .bool false])) w' :=
  ⟨none, 0, 0, by rw [h], hide (fun e => by rw [h] at e; cases e), hb⟩

set_option maxHeartbeats 2000000 in
theorem stepS_any (a0 a1 a2 am : Option Addr) (n0 n1 n2 c0 c1 c2 nm cm : Nat) (x0 x1 x2 ys : List Int) (w : World) (r0 : Row w a0 n0 x0) (r1 : Row w a1 n1 x1) (r2 : Row w a2 n2 x2) (rm : Row w am nm ys) (q0 : n0 ≤ 1048576) (q1 : n1 ≤ 1048576) (q2 : n2 ≤ 1048576) (hm : nm ≤ 16) (hy : ∀ i, 0 ≤ ys.getD i 0 ∧ ys.getD i 0 ≤ 50) :
    Calls Try.prog 102 #[.agg #[.slice a0 n0 c0, .slice a1 n1 c1, .slice a2 n2 c2], .slice am nm cm] w fun e w' => StpEnd (sbOkL x1 x2 ys nm) (sbL x0 x1 x2 ys nm) w e w' := by
  have hAl := below_al w (.cells #[.slice a0 n0 c0, .slice a1 n1 c1, .slice a2 n2 c2] 126)
  have HP := hide (heap_alloc_new w (.cells #[.slice a0 n0 c0, .slice a1 n1 c1, .slice a2 n2 c2] 126))
  have HR := hide (And.intro (r0.below hAl) (And.intro (r1.below hAl) (And.intro (r2.below hAl) (rm.below hAl))))
  have HB0 := hide hAl
  have HY := hide hy
  obtain ⟨i0, hi, hz0, hz1, hz2⟩ := info_split Try.info3
  clear r0 r1 r2 rm hAl hy
  go_enter Try.func102, Try.ntmps102
  go_wp2_with fail
  generalize w.alloc (.cells #[.slice a0 n0 c0, .slice a1 n1 c1, .slice a2 n2 c2] 126) = v at *
  have hvs := HB0.out.size
  go_loopw [6, 13] (fun o i wr => ∃ k : Nat, k ≤ nm ∧ i = .int .i64 k ∧ Hid (sbOkL x1 x2 ys k = true) ∧ Hid (wr.ownsRow v.heap.size 3 1 o k ((sbL x0 x1 x2 ys k).map (Value.int .i64))) ∧ Hid (Below v.heap.size v wr)) (fun _ i _ => nm - (intOf i).toNat)
  case atStart => exact ⟨0, Nat.zero_le _, rfl, rfl, World.ownsRow_nil _ _ _ _, Below.refl _ _⟩
  case round =>
    obtain ⟨k, hk, rfl, hu, hown, hbw⟩ := hrel
    by_cases hlt : k < nm
    rotate_left
    · have hk' : k = nm := by omega
      have HU := hide hu.out
      obtain ⟨av, cv, hv, hrow⟩ := own_row hown.out
      rw [hk'] at hrow hv HU
      have HE : Hid (StpEnd (sbOkL x1 x2 ys nm) (sbL x0 x1 x2 ys nm) w (.returned (.tuple #[.slice av nm cv, .bool true])) wr) := ⟨av, nm, cv, by rw [HU.out], fun _ => hrow, HB0.out.trans (hbw.out.mono hvs)⟩
      clear hown hrow hu HU hk
      subst hk'
      subst hv
      go_wp2_with fail
      go_ret2
      exact HE.out
    obtain ⟨bm, om, x, rfl, hbm, hcm, hxk⟩ := (HR.out.2.2.2.below hbw.out).at hlt
    have hx : ys.getD k 0 = x := by rw [List.getD_eq_getElem?_getD, hxk.out]; rfl
    have hx1 := (HY.out k).1
    have hx2 := (HY.out k).2
    have HNO := hide (fun h => sbOkL_not (x1 := x1) (x2 := x2) (ys := ys) hlt h)
    have HYE := hide (fun h => sbOkL_succ (x1 := x1) (x2 := x2) (ys := ys) (k := k) hu.out h)
    have HSU := hide (sbL_succ x0 x1 x2 ys k)
    rw [hx] at hx1 hx2 HNO HYE HSU
    have HH0 := hide (has_any a0 n0 c0 x0 (k : Int) wr (HR.out.1.below hbw.out) q0)
    have HH1 := hide (has_any a1 n1 c1 x1 (k : Int) wr (HR.out.2.1.below hbw.out) q1)
    have HH2 := hide (has_any a2 n2 c2 x2 (k : Int) wr (HR.out.2.2.1.below hbw.out) q2)
    have HBR := hide (HB0.out.trans (hbw.out.mono hvs))
    have hpb := keep HP.out hbw.out
    have hc0 := cell_of_row wr w.heap.size 0 _ _ _ hpb
    have hc1 := cell_of_row wr w.heap.size 1 _ _ _ hpb
    have hc2 := cell_of_row wr w.heap.size 2 _ _ _ hpb
    simp at hc0 hc1 hc2
    have hlw := row_lt hpb
    have hki : (k : Int) < (nm : Int) := by omega
    have hA2 := fun z => below_al wr (.cells #[.int .i64 z] 3)
    have HO2 := hide (fun z => hown.out.alloc (.cells #[.int .i64 z] 3))
    have HB2 := hide (fun z => hbw.out.trans ((hA2 z).mono hbw.out.size))
    have HCE : Hid (∀ z j u, ([.int .i64 z] : List Value)[j]? = some u → (wr.alloc (.cells #[.int .i64 z] 3)).cell? ((⟨wr.heap.size, 0, none⟩ : Addr).add j) = some u) := fun z => one_cell wr _
    have H1c : Hid (∀ z, ∀ u ∈ ([.int .i64 z] : List Value), u.oneCell' = true) := fun z u hu => by simp at hu; subst hu; rfl
    have HX := hide (show k + 1 ≤ maxLen by unfold maxLen; omega)
    have HYB := hide (show (k + 1) * 8 ≤ 140737488355328 by omega)
    have HZ := hide (fun z => (HB2.out z).size)
    have HAP : Hid (∀ (z : Int) (v' : Value) (W' : World), Hid (sbV x0 x1 x2 (k : Int) x = z) → W'.ownsRow v.heap.size 3 1 v' (k + 1) ((sbL x0 x1 x2 ys k).map (Value.int .i64) ++ [.int .i64 z]) → W'.ownsRow v.heap.size 3 1 v' (k + 1) ((sbL x0 x1 x2 ys (k + 1)).map (Value.int .i64))) := by
      intro z v' W' hz h
      rw [HSU.out, List.map_append, hz.out]; exact h
    clear hx hxk hA2 hown hu hpb HSU
    cases hb1 : hasB x1 (k : Int) <;> cases hb0 : hasB x0 (k : Int) <;> cases hb2 : hasB x2 (k : Int)
    · rw [hb1] at HH1; rw [hb0] at HH0; rw [hb2] at HH2
      have HU := hide (HYE.out (by unfold sbNo one01; rw [hb2]; simp))
      obtain ⟨mv, hmv⟩ : ∃ mv, Hid ((if x < 0 then 0 else x) = mv) := ⟨_, rfl⟩
      have hmv1 : 0 ≤ mv := by have := hmv.out; split at this <;> omega
      have hmv2 : mv ≤ 50 := by have := hmv.out; split at this <;> omega
      have HM := hide (mostU_any 0 (x) wr)
      rw [hmv.out] at HM
      have HV : Hid (sbV x0 x1 x2 (k : Int) x = mv) := by show _ = _; unfold sbV one01; rw [hb2, hb0, hb1, ← hmv.out]; simp
      clear HNO HYE HBR
      go_wp2_with fail
      refine HH1.out.mono ?_
      rintro e w' ⟨rfl, rfl⟩
      go_wp2_with fail
      refine HH0.out.mono ?_
      rintro e w' ⟨rfl, rfl⟩
      go_wp2_with fail
      refine HH2.out.mono ?_
      rintro e w' ⟨rfl, rfl⟩
      clear HH0 HH1 HH2
      go_wp2_with (first | (go_at_call 93; refine HM.out.mono ?_; rintro e w8 ⟨rfl, hw⟩; have hw2 := hw.symm; subst hw2) | (refine wpList_append_own _ rfl (.tmp 37) (.tmp 44) 30 rfl v.heap.size 3 i0 (.int .i64 0) 1 8 Try.underlying30 hi hz0 hz1 hz2 rfl (by decide) u6 k _ rfl (HO2.out _) ⟨w'.heap.size, 0, none⟩ 1 1 [.int .i64 (mv)] rfl rfl (HCE.out _) (H1c.out _) HX.out HYB.out (HZ.out _) ?_; intro v' W' r1 r2 r3))
      have HR1 := hide (HAP.out _ v' W' HV r1)
      have HB3 := hide (own_below (HO2.out _) r2 (HB2.out _) (HZ.out _) (Nat.le_refl _))
      clear r1 r2 r3 HAP HO2 HB2 HCE H1c HX HYB HZ
      go_wp2_with fail
      go_roundw
      case rel => exact ⟨k + 1, by omega, by go_num, HU, HR1, HB3⟩
      case measure => simp [intOf]; omega
    · by_cases hgt : 0 < x
      · rw [hb1] at HH1; rw [hb0] at HH0; rw [hb2] at HH2
        have HE := hide (stpEnd_no (r := sbL x0 x1 x2 ys nm) (w := w) (HNO.out (by unfold sbNo one01; rw [hb2, hb1]; simpa using hgt)) HBR.out)
        clear HNO HYE HAP HO2 HB2 HCE H1c HX HYB HZ HBR
        go_wp2_with fail
        refine HH1.out.mono ?_
        rintro e w' ⟨rfl, rfl⟩
        go_wp2_with fail
        refine HH0.out.mono ?_
        rintro e w' ⟨rfl, rfl⟩
        go_wp2_with fail
        refine HH2.out.mono ?_
        rintro e w' ⟨rfl, rfl⟩
        clear HH0 HH1 HH2
        go_wp2_with fail
        go_ret2
        exact HE.out
      · rw [hb1] at HH1; rw [hb0] at HH0; rw [hb2] at HH2
        have HU := hide (HYE.out (by unfold sbNo one01; rw [hb2, hb1]; simpa using hgt))
        have HV : Hid (sbV x0 x1 x2 (k : Int) x = 0) := by show _ = _; unfold sbV one01; rw [hb2, hb0]; rfl
        clear HNO HYE HBR
        go_wp2_with fail
        refine HH1.out.mono ?_
        rintro e w' ⟨rfl, rfl⟩
        go_wp2_with fail
        refine HH0.out.mono ?_
        rintro e w' ⟨rfl, rfl⟩
        go_wp2_with fail
        refine HH2.out.mono ?_
        rintro e w' ⟨rfl, rfl⟩
        clear HH0 HH1 HH2
        go_wp2_with (refine wpList_append_own _ rfl (.tmp 33) (.tmp 35) 30 rfl v.heap.size 3 i0 (.int .i64 0) 1 8 Try.underlying30 hi hz0 hz1 hz2 rfl (by decide) u6 k _ rfl (HO2.out _) ⟨w'.heap.size, 0, none⟩ 1 1 [.int .i64 (0)] rfl rfl (HCE.out _) (H1c.out _) HX.out HYB.out (HZ.out _) ?_; intro v' W' r1 r2 r3)
        have HR1 := hide (HAP.out _ v' W' HV r1)
        have HB3 := hide (own_below (HO2.out _) r2 (HB2.out _) (HZ.out _) (Nat.le_refl _))
        clear r1 r2 r3 HAP HO2 HB2 HCE H1c HX HYB HZ
        go_wp2_with fail
        go_roundw
        case rel => exact ⟨k + 1, by omega, by go_num, HU, HR1, HB3⟩
        case measure => simp [intOf]; omega
    · rw [hb1] at HH1; rw [hb0] at HH0; rw [hb2] at HH2
      have HU := hide (HYE.out (by unfold sbNo one01; rw [hb2]; simp))
      obtain ⟨mv, hmv⟩ : ∃ mv, Hid ((if x < 0 then 0 else x) = mv) := ⟨_, rfl⟩
      have hmv1 : 0 ≤ mv := by have := hmv.out; split at this <;> omega
      have hmv2 : mv ≤ 50 := by have := hmv.out; split at this <;> omega
      have HM := hide (mostU_any 0 (x) wr)
      rw [hmv.out] at HM
      have HV : Hid (sbV x0 x1 x2 (k : Int) x = mv + 1) := by show _ = _; unfold sbV one01; rw [hb2, hb0, hb1, ← hmv.out]; simp
      clear HNO HYE HBR
      go_wp2_with fail
      refine HH1.out.mono ?_
      rintro e w' ⟨rfl, rfl⟩
      go_wp2_with fail
      refine HH0.out.mono ?_
      rintro e w' ⟨rfl, rfl⟩
      go_wp2_with fail
      refine HH2.out.mono ?_
      rintro e w' ⟨rfl, rfl⟩
      clear HH0 HH1 HH2
      go_wp2_with (first | (go_at_call 93; refine HM.out.mono ?_; rintro e w8 ⟨rfl, hw⟩; have hw2 := hw.symm; subst hw2) | (refine wpList_append_own _ rfl (.tmp 37) (.tmp 44) 30 rfl v.heap.size 3 i0 (.int .i64 0) 1 8 Try.underlying30 hi hz0 hz1 hz2 rfl (by decide) u6 k _ rfl (HO2.out _) ⟨w'.heap.size, 0, none⟩ 1 1 [.int .i64 (mv + 1)] rfl rfl (HCE.out _) (H1c.out _) HX.out HYB.out (HZ.out _) ?_; intro v' W' r1 r2 r3))
      have HR1 := hide (HAP.out _ v' W' HV r1)
      have HB3 := hide (own_below (HO2.out _) r2 (HB2.out _) (HZ.out _) (Nat.le_refl _))
      clear r1 r2 r3 HAP HO2 HB2 HCE H1c HX HYB HZ
      go_wp2_with fail
      go_roundw
      case rel => exact ⟨k + 1, by omega, by go_num, HU, HR1, HB3⟩
      case measure => simp [intOf]; omega
    · by_cases hgt : 0 < x
      · rw [hb1] at HH1; rw [hb0] at HH0; rw [hb2] at HH2
        have HE := hide (stpEnd_no (r := sbL x0 x1 x2 ys nm) (w := w) (HNO.out (by unfold sbNo one01; rw [hb2, hb1]; simpa using hgt)) HBR.out)
        clear HNO HYE HAP HO2 HB2 HCE H1c HX HYB HZ HBR
        go_wp2_with fail
        refine HH1.out.mono ?_
        rintro e w' ⟨rfl, rfl⟩
        go_wp2_with fail
        refine HH0.out.mono ?_
        rintro e w' ⟨rfl, rfl⟩
        go_wp2_with fail
        refine HH2.out.mono ?_
        rintro e w' ⟨rfl, rfl⟩
        clear HH0 HH1 HH2
        go_wp2_with fail
        go_ret2
        exact HE.out
      · rw [hb1] at HH1; rw [hb0] at HH0; rw [hb2] at HH2
        have HU := hide (HYE.out (by unfold sbNo one01; rw [hb2, hb1]; simpa using hgt))
        have HV : Hid (sbV x0 x1 x2 (k : Int) x = 1) := by show _ = _; unfold sbV one01; rw [hb2, hb0]; rfl
        clear HNO HYE HBR
        go_wp2_with fail
        refine HH1.out.mono ?_
        rintro e w' ⟨rfl, rfl⟩
        go_wp2_with fail
        refine HH0.out.mono ?_
        rintro e w' ⟨rfl, rfl⟩
        go_wp2_with fail
        refine HH2.out.mono ?_
        rintro e w' ⟨rfl, rfl⟩
        clear HH0 HH1 HH2
        go_wp2_with (refine wpList_append_own _ rfl (.tmp 33) (.tmp 35) 30 rfl v.heap.size 3 i0 (.int .i64 0) 1 8 Try.underlying30 hi hz0 hz1 hz2 rfl (by decide) u6 k _ rfl (HO2.out _) ⟨w'.heap.size, 0, none⟩ 1 1 [.int .i64 (1)] rfl rfl (HCE.out _) (H1c.out _) HX.out HYB.out (HZ.out _) ?_; intro v' W' r1 r2 r3)
        have HR1 := hide (HAP.out _ v' W' HV r1)
        have HB3 := hide (own_below (HO2.out _) r2 (HB2.out _) (HZ.out _) (Nat.le_refl _))
        clear r1 r2 r3 HAP HO2 HB2 HCE H1c HX HYB HZ
        go_wp2_with fail
        go_roundw
        case rel => exact ⟨k + 1, by omega, by go_num, HU, HR1, HB3⟩
        case measure => simp [intOf]; omega
    · rw [hb1] at HH1; rw [hb0] at HH0; rw [hb2] at HH2
      have HU := hide (HYE.out (by unfold sbNo one01; rw [hb2]; simp))
      obtain ⟨mv, hmv⟩ : ∃ mv, Hid ((if x - 1 < 0 then 0 else x - 1) = mv) := ⟨_, rfl⟩
      have hmv1 : 0 ≤ mv := by have := hmv.out; split at this <;> omega
      have hmv2 : mv ≤ 50 := by have := hmv.out; split at this <;> omega
      have HM := hide (mostU_any 0 (x - 1) wr)
      rw [hmv.out] at HM
      have HV : Hid (sbV x0 x1 x2 (k : Int) x = mv) := by show _ = _; unfold sbV one01; rw [hb2, hb0, hb1, ← hmv.out]; simp
      clear HNO HYE HBR
      go_wp2_with fail
      refine HH1.out.mono ?_
      rintro e w' ⟨rfl, rfl⟩
      go_wp2_with fail
      refine HH0.out.mono ?_
      rintro e w' ⟨rfl, rfl⟩
      go_wp2_with fail
      refine HH2.out.mono ?_
      rintro e w' ⟨rfl, rfl⟩
      clear HH0 HH1 HH2
      go_wp2_with (first | (go_at_call 93; refine HM.out.mono ?_; rintro e w8 ⟨rfl, hw⟩; have hw2 := hw.symm; subst hw2) | (refine wpList_append_own _ rfl (.tmp 37) (.tmp 44) 30 rfl v.heap.size 3 i0 (.int .i64 0) 1 8 Try.underlying30 hi hz0 hz1 hz2 rfl (by decide) u6 k _ rfl (HO2.out _) ⟨w'.heap.size, 0, none⟩ 1 1 [.int .i64 (mv)] rfl rfl (HCE.out _) (H1c.out _) HX.out HYB.out (HZ.out _) ?_; intro v' W' r1 r2 r3))
      have HR1 := hide (HAP.out _ v' W' HV r1)
      have HB3 := hide (own_below (HO2.out _) r2 (HB2.out _) (HZ.out _) (Nat.le_refl _))
      clear r1 r2 r3 HAP HO2 HB2 HCE H1c HX HYB HZ
      go_wp2_with fail
      go_roundw
      case rel => exact ⟨k + 1, by omega, by go_num, HU, HR1, HB3⟩
      case measure => simp [intOf]; omega
    · by_cases hgt : 1 < x
      · rw [hb1] at HH1; rw [hb0] at HH0; rw [hb2] at HH2
        have HE := hide (stpEnd_no (r := sbL x0 x1 x2 ys nm) (w := w) (HNO.out (by unfold sbNo one01; rw [hb2, hb1]; simpa using hgt)) HBR.out)
        clear HNO HYE HAP HO2 HB2 HCE H1c HX HYB HZ HBR
        go_wp2_with fail
        refine HH1.out.mono ?_
        rintro e w' ⟨rfl, rfl⟩
        go_wp2_with fail
        refine HH0.out.mono ?_
        rintro e w' ⟨rfl, rfl⟩
        go_wp2_with fail
        refine HH2.out.mono ?_
        rintro e w' ⟨rfl, rfl⟩
        clear HH0 HH1 HH2
        go_wp2_with fail
        go_ret2
        exact HE.out
      · rw [hb1] at HH1; rw [hb0] at HH0; rw [hb2] at HH2
        have HU := hide (HYE.out (by unfold sbNo one01; rw [hb2, hb1]; simpa using hgt))
        have HV : Hid (sbV x0 x1 x2 (k : Int) x = 0) := by show _ = _; unfold sbV one01; rw [hb2, hb0]; rfl
        clear HNO HYE HBR
        go_wp2_with fail
        refine HH1.out.mono ?_
        rintro e w' ⟨rfl, rfl⟩
        go_wp2_with fail
        refine HH0.out.mono ?_
        rintro e w' ⟨rfl, rfl⟩
        go_wp2_with fail
        refine HH2.out.mono ?_
        rintro e w' ⟨rfl, rfl⟩
        clear HH0 HH1 HH2
        go_wp2_with (refine wpList_append_own _ rfl (.tmp 33) (.tmp 35) 30 rfl v.heap.size 3 i0 (.int .i64 0) 1 8 Try.underlying30 hi hz0 hz1 hz2 rfl (by decide) u6 k _ rfl (HO2.out _) ⟨w'.heap.size, 0, none⟩ 1 1 [.int .i64 (0)] rfl rfl (HCE.out _) (H1c.out _) HX.out HYB.out (HZ.out _) ?_; intro v' W' r1 r2 r3)
        have HR1 := hide (HAP.out _ v' W' HV r1)
        have HB3 := hide (own_below (HO2.out _) r2 (HB2.out _) (HZ.out _) (Nat.le_refl _))
        clear r1 r2 r3 HAP HO2 HB2 HCE H1c HX HYB HZ
        go_wp2_with fail
        go_roundw
        case rel => exact ⟨k + 1, by omega, by go_num, HU, HR1, HB3⟩
        case measure => simp [intOf]; omega
    · rw [hb1] at HH1; rw [hb0] at HH0; rw [hb2] at HH2
      have HU := hide (HYE.out (by unfold sbNo one01; rw [hb2]; simp))
      obtain ⟨mv, hmv⟩ : ∃ mv, Hid ((if x - 1 < 0 then 0 else x - 1) = mv) := ⟨_, rfl⟩
      have hmv1 : 0 ≤ mv := by have := hmv.out; split at this <;> omega
      have hmv2 : mv ≤ 50 := by have := hmv.out; split at this <;> omega
      have HM := hide (mostU_any 0 (x - 1) wr)
      rw [hmv.out] at HM
      have HV : Hid (sbV x0 x1 x2 (k : Int) x = mv + 1) := by show _ = _; unfold sbV one01; rw [hb2, hb0, hb1, ← hmv.out]; simp
      clear HNO HYE HBR
      go_wp2_with fail
      refine HH1.out.mono ?_
      rintro e w' ⟨rfl, rfl⟩
      go_wp2_with fail
      refine HH0.out.mono ?_
      rintro e w' ⟨rfl, rfl⟩
      go_wp2_with fail
      refine HH2.out.mono ?_
      rintro e w' ⟨rfl, rfl⟩
      clear HH0 HH1 HH2
      go_wp2_with (first | (go_at_call 93; refine HM.out.mono ?_; rintro e w8 ⟨rfl, hw⟩; have hw2 := hw.symm; subst hw2) | (refine wpList_append_own _ rfl (.tmp 37) (.tmp 44) 30 rfl v.heap.size 3 i0 (.int .i64 0) 1 8 Try.underlying30 hi hz0 hz1 hz2 rfl (by decide) u6 k _ rfl (HO2.out _) ⟨w'.heap.size, 0, none⟩ 1 1 [.int .i64 (mv + 1)] rfl rfl (HCE.out _) (H1c.out _) HX.out HYB.out (HZ.out _) ?_; intro v' W' r1 r2 r3))
      have HR1 := hide (HAP.out _ v' W' HV r1)
      have HB3 := hide (own_below (HO2.out _) r2 (HB2.out _) (HZ.out _) (Nat.le_refl _))
      clear r1 r2 r3 HAP HO2 HB2 HCE H1c HX HYB HZ
      go_wp2_with fail
      go_roundw
      case rel => exact ⟨k + 1, by omega, by go_num, HU, HR1, HB3⟩
      case measure => simp [intOf]; omega
    · by_cases hgt : 1 < x
      · rw [hb1] at HH1; rw [hb0] at HH0; rw [hb2] at HH2
        have HE := hide (stpEnd_no (r := sbL x0 x1 x2 ys nm) (w := w) (HNO.out (by unfold sbNo one01; rw [hb2, hb1]; simpa using hgt)) HBR.out)
        clear HNO HYE HAP HO2 HB2 HCE H1c HX HYB HZ HBR
        go_wp2_with fail
        refine HH1.out.mono ?_
        rintro e w' ⟨rfl, rfl⟩
        go_wp2_with fail
        refine HH0.out.mono ?_
        rintro e w' ⟨rfl, rfl⟩
        go_wp2_with fail
        refine HH2.out.mono ?_
        rintro e w' ⟨rfl, rfl⟩
        clear HH0 HH1 HH2
        go_wp2_with fail
        go_ret2
        exact HE.out
      · rw [hb1] at HH1; rw [hb0] at HH0; rw [hb2] at HH2
        have HU := hide (HYE.out (by unfold sbNo one01; rw [hb2, hb1]; simpa using hgt))
        have HV : Hid (sbV x0 x1 x2 (k : Int) x = 1) := by show _ = _; unfold sbV one01; rw [hb2, hb0]; rfl
        clear HNO HYE HBR
        go_wp2_with fail
        refine HH1.out.mono ?_
        rintro e w' ⟨rfl, rfl⟩
        go_wp2_with fail
        refine HH0.out.mono ?_
        rintro e w' ⟨rfl, rfl⟩
        go_wp2_with fail
        refine HH2.out.mono ?_
        rintro e w' ⟨rfl, rfl⟩
        clear HH0 HH1 HH2
        go_wp2_with (refine wpList_append_own _ rfl (.tmp 33) (.tmp 35) 30 rfl v.heap.size 3 i0 (.int .i64 0) 1 8 Try.underlying30 hi hz0 hz1 hz2 rfl (by decide) u6 k _ rfl (HO2.out _) ⟨w'.heap.size, 0, none⟩ 1 1 [.int .i64 (1)] rfl rfl (HCE.out _) (H1c.out _) HX.out HYB.out (HZ.out _) ?_; intro v' W' r1 r2 r3)
        have HR1 := hide (HAP.out _ v' W' HV r1)
        have HB3 := hide (own_below (HO2.out _) r2 (HB2.out _) (HZ.out _) (Nat.le_refl _))
        clear r1 r2 r3 HAP HO2 HB2 HCE H1c HX HYB HZ
        go_wp2_with fail
        go_roundw
        case rel => exact ⟨k + 1, by omega, by go_num, HU, HR1, HB3⟩
        case measure => simp [intOf]; omega

end Go.Proofs.Ytegabkegbhglfaa


/- The specification's StepBack, for every net, mark and number in memory. -/
namespace Go.Proofs.Ytegabkegbhglfaa
open Go.RowKit
set_option maxRecDepth 10000

theorem sbend_no {p : Int} {n : Nat} {L : List (List Int)} {ys : List Int} {t : Int} {w w' : World} (h : sbOk p n L ys t = false) (hb : Below w.heap.size w w') : REnd (sbOk p n L ys t) (sbR p n L ys t) w (.returned (.tuple #[.slice none 0 0, .bool false])) w' := by
  refine ⟨none, 0, 0, by rw [h], ⟨?_, .inl rfl⟩, hb⟩
  rw [sbR_no h]; rfl

theorem sbend_yes {p : Int} {n : Nat} {L : List (List Int)} {ys : List Int} {t : Int} {w w' : World} {a : Option Addr} {m c : Nat} (h : sbOk p n L ys t = true) (hr : Row w' a m (sbOf L ys t ys.length)) (hb : Below w.heap.size w w') : REnd (sbOk p n L ys t) (sbR p n L ys t) w (.returned (.tuple #[.slice a m c, .bool true])) w' := by
  refine ⟨a, m, c, by rw [h], ?_, hb⟩
  rw [sbR_yes h]; exact hr

set_option maxHeartbeats 600000 in
theorem specSB_any (p : Int) (a am : Option Addr) (n c nm cm : Nat) (L : List (List Int)) (ys : List Int) (t : Int) (w : World) (h : Lists w a (3 * n) L) (rm : Row w am nm ys) (hs : sizeN n L ≤ 1048576) (hnm : nm ≤ 1048576) :
    Calls Try.prog 47 #[.agg #[.int .i64 p, .slice a n c], .int .i64 t, .slice am nm cm] w fun e w' => REnd (sbOk p n L ys t) (sbR p n L ys t) w e w' := by
  have hAl := below_al w (.cells #[.int .i64 p, .slice a n c] 39)
  have PAR := hide (heap_alloc_new w (.cells #[.int .i64 p, .slice a n c] 39))
  have HG := hide (marked_any p a am n c nm cm L ys _ (h.below hAl) (rm.below hAl) hs hnm)
  have HL := hide (h.below hAl)
  have RM := hide (rm.below hAl)
  have HB0 := hide hAl
  clear h rm hAl
  have hs' : n + sizeL L ≤ 1048576 := hs
  go_enter Try.func47, Try.ntmps47
  go_wp2_with fail
  generalize w.alloc (.cells #[.int .i64 p, .slice a n c] 39) = v at *
  refine HG.out.mono ?_
  rintro e w1 ⟨rfl, hb⟩
  have PAR1 := hide (keep PAR.out hb)
  have HL1 := hide (HL.out.below hb)
  have RM1 := hide (RM.out.below hb)
  have HB1 := hide (HB0.out.trans (hb.mono HB0.out.size))
  obtain ⟨hc0, hc1⟩ := cells2 PAR1.out
  clear HG PAR HL RM HB0 hb v
  by_cases g1 : (netOk p n L && goodB p ys) = true
  rotate_left
  · have g1' : (netOk p n L && goodB p ys) = false := by simpa using g1
    have HN := hide (sbend_no (w := w) (sbOk_no1 (t := t) g1') HB1.out)
    rw [g1']
    clear g1 g1'
    go_wp2_with fail
    go_ret2
    exact HN.out
  rw [g1]
  have HG1 := hide g1
  have hgg := g1
  rw [Bool.and_eq_true] at hgg
  have hn24 := netOkN hgg.1
  obtain ⟨⟨hp1, hp2⟩, hyl, hyb⟩ := goodB_parts hgg.2
  have hlm := RM1.out.1
  have HNET := hide hgg.1
  clear g1 hgg
  by_cases g2 : inB t 0 ((n : Int) - 1) = true
  rotate_left
  · have g2' : inB t 0 ((n : Int) - 1) = false := by simpa using g2
    have HN := hide (sbend_no (w := w) (sbOk_no2 (p := p) (L := L) (ys := ys) g2') HB1.out)
    clear g2
    go_wp2_with (go_at_call 92; refine (in_any _ _ _ _).mono ?_; rintro e w' ⟨rfl, rfl⟩)
    go_ret2
    exact HN.out
  have ht : 0 ≤ t ∧ t ≤ (n : Int) - 1 := by simpa [inB] using g2
  have HG2 := hide g2
  obtain ⟨k, rfl⟩ : ∃ k : Nat, t = (k : Int) := ⟨t.toNat, by omega⟩
  have hkn : k < n := by omega
  have hkn' : (k : Int) < (n : Int) := by omega
  have hk0 : (0 : Int) ≤ (k : Int) := by omega
  obtain ⟨b, off, a0, n0, e0, a1, n1, e1, a2, n2, e2, rfl, hb, hr, m0, m1, m2, r0, r1, r2⟩ := HL1.out.tri hkn
  obtain ⟨hd0, hd1, hd2⟩ := rangeAt_cells3 hr
  obtain ⟨x0, hx0⟩ : ∃ x, Hid (L.getD (3 * k) [] = x) := ⟨_, rfl⟩
  obtain ⟨x1, hx1⟩ : ∃ x, Hid (L.getD (3 * k + 1) [] = x) := ⟨_, rfl⟩
  obtain ⟨x2, hx2⟩ : ∃ x, Hid (L.getD (3 * k + 2) [] = x) := ⟨_, rfl⟩
  have hl0 := len_le L (3 * k)
  have hl1 := len_le L (3 * k + 1)
  have hl2 := len_le L (3 * k + 2)
  rw [hx0.out] at r0 hl0
  rw [hx1.out] at r1 hl1
  rw [hx2.out] at r2 hl2
  have q0 : n0 ≤ 1048576 := by have := r0.1; omega
  have q1 : n1 ≤ 1048576 := by have := r1.1; omega
  have q2 : n2 ≤ 1048576 := by have := r2.1; omega
  have hnm16 : nm ≤ 16 := by omega
  have HLE : Hid (ys.length = nm) := hlm
  have HC0 : Hid (sbCan L ys (k : Int) ys.length = sbOkL x1 x2 ys nm) := by show sbOkL _ _ _ _ = _; unfold outOf resOf; rw [Int.toNat_natCast, hx1.out, hx2.out, HLE.out]
  have HF0 : Hid (sbOf L ys (k : Int) ys.length = sbL x0 x1 x2 ys nm) := by show sbL _ _ _ _ _ = _; unfold inOf outOf resOf; rw [Int.toNat_natCast, hx0.out, hx1.out, hx2.out, HLE.out]
  have HFI := hide (stepS_any a0 a1 a2 am n0 n1 n2 e0 e1 e2 nm cm x0 x1 x2 ys w1 r0 r1 r2 RM1.out q0 q1 q2 hnm16 hyb)
  clear hr r0 r1 r2 hl0 hl1 hl2 m0 m1 m2 hx0 hx1 hx2 hyb
  go_wp2_with (go_at_call 92; refine (in_any _ _ _ _).mono ?_; rintro e w' ⟨rfl, rfl⟩)
  refine HFI.out.mono ?_
  rintro e w3 ⟨ag, ng, cg, rfl, hrow, hb3⟩
  have PAR3 := hide (keep PAR1.out hb3)
  have HB3 := hide (HB1.out.trans (hb3.mono HB1.out.size))
  obtain ⟨hc0, hc1⟩ := cells2 PAR3.out
  by_cases g3 : sbOkL x1 x2 ys nm = true
  rotate_left
  · have g3' : sbOkL x1 x2 ys nm = false := by simpa using g3
    have HN := hide (sbend_no (w := w) (sbOk_no3 (p := p) (n := n) (L := L) (ys := ys) (t := (k : Int)) (by rw [HC0.out]; exact g3')) HB3.out)
    rw [g3']
    clear g3 g3' hb3 HFI hd0 hd1 hd2
    go_wp2_with fail
    go_ret2
    exact HN.out
  have HROW := hide (hrow.out g3)
  have HG3 : Hid (sbCan L ys (k : Int) ys.length = true) := by show _ = _; rw [HC0.out]; exact g3
  obtain rfl : nm = ng := by have := HROW.out.1; rw [sbL_len] at this; omega
  have HM := hide (goodS_any p ag nm cg (sbL x0 x1 x2 ys nm) w3 HROW.out (by omega))
  rw [g3]
  clear g3 hrow hb3 HFI hd0 hd1 hd2
  go_wp2_with fail
  refine HM.out.mono ?_
  rintro e w4 ⟨rfl, rfl⟩
  by_cases g4 : goodB p (sbL x0 x1 x2 ys nm) = true
  rotate_left
  · have g4' : goodB p (sbL x0 x1 x2 ys nm) = false := by simpa using g4
    have HN := hide (sbend_no (w := w) (sbOk_no4 (p := p) (n := n) (L := L) (ys := ys) (t := (k : Int)) (by rw [HF0.out]; exact g4')) HB3.out)
    rw [g4']
    clear g4 g4'
    go_wp2_with fail
    go_ret2
    exact HN.out
  have HYD : Hid (REnd (sbOk p n L ys (k : Int)) (sbR p n L ys (k : Int)) w (.returned (.tuple #[.slice ag nm cg, .bool true])) w4) :=
    sbend_yes (sbOk_yes HG1.out HG2.out HG3.out (by rw [HF0.out]; exact g4)) (by rw [HF0.out]; exact HROW.out) HB3.out
  rw [g4]
  clear g4
  go_wp2_with fail
  go_ret2
  exact HYD.out
end Go.Proofs.Ytegabkegbhglfaa
