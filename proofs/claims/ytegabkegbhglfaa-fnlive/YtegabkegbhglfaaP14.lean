/- Contracts that the proof stands on, one behind the other. -/
import Derived.Test.YtegabkegbhglfaaP13
/- DeadTrans of both: the transitions that no arc of the whole space is by. -/
namespace Go.Proofs.Ytegabkegbhglfaa
open Go.RowKit
set_option maxRecDepth 10000

def metB (ar : List (Nat × Nat × Nat)) (t : Nat) : Bool := ar.any fun a => a.2.1 == t
def deadL (n : Nat) (ar : List (Nat × Nat × Nat)) : List Int := numsL (fun t => !metB ar t) n
def dtOk (p : Int) (n : Nat) (L : List (List Int)) (ys : List Int) (bg : Int) : Bool := decide (spCode p n L ys bg = 1)
def dtR (p : Int) (n : Nat) (L : List (List Int)) (ys : List Int) (bg : Int) : List Int := if dtOk p n L ys bg then deadL n (spSea p n L ys bg).ar else []

theorem dtOk_yes {p : Int} {n : Nat} {L : List (List Int)} {ys : List Int} {bg : Int} (h : spCode p n L ys bg = 1) : dtOk p n L ys bg = true := by unfold dtOk; simp [h]
theorem dtOk_no {p : Int} {n : Nat} {L : List (List Int)} {ys : List Int} {bg : Int} (h : spCode p n L ys bg ≠ 1) : dtOk p n L ys bg = false := by unfold dtOk; simp [h]

theorem metB_take {ar : List (Nat × Nat × Nat)} {i x y z : Nat} (h : ar[i]? = some (x, y, z)) (t : Nat) : metB (ar.take (i + 1)) t = (metB (ar.take i) t || y == t) := by
  unfold metB
  rw [List.take_add_one, h, List.any_append]
  simp

theorem arcsL_at : ∀ (ar : List (Nat × Nat × Nat)) (i x y z : Nat), ar[i]? = some (x, y, z) → (arcsL ar)[i * 3]? = some (.int .i64 (x : Int)) ∧ (arcsL ar)[i * 3 + 1]? = some (.int .i64 (y : Int)) ∧ (arcsL ar)[i * 3 + 2]? = some (.int .i64 (z : Int)) := by
  intro ar
  induction ar with
  | nil => intro i x y z h; simp at h
  | cons a r ih =>
    intro i x y z h
    have e : arcsL (a :: r) = [.int .i64 (a.1 : Int), .int .i64 (a.2.1 : Int), .int .i64 (a.2.2 : Int)] ++ arcsL r := by simp [arcsL]
    rw [e]
    cases i with
    | zero => simp at h; subst h; exact ⟨rfl, rfl, rfl⟩
    | succ i =>
      have h' : r[i]? = some (x, y, z) := by simpa using h
      obtain ⟨h1, h2, h3⟩ := ih i x y z h'
      refine ⟨?_, ?_, ?_⟩
      · rw [List.getElem?_append_right (by simp; omega)]; rw [← h1]; congr 1; simp; omega
      · rw [List.getElem?_append_right (by simp; omega)]; rw [← h2]; congr 1; simp; omega
      · rw [List.getElem?_append_right (by simp; omega)]; rw [← h3]; congr 1; simp; omega

/-- An arc in memory. -/
theorem arcs_at {w : World} {B : Nat} {aa : Option Addr} {N ac : Nat} {ar : List (Nat × Nat × Nat)} (h : w.ownsRow B 49 3 (.slice aa N ac) N (arcsL ar)) {i : Nat} (hi : i < N) {x y z : Nat} (ha : ar[i]? = some (x, y, z)) :
    ∃ g, aa = some ⟨g, 0, none⟩ ∧ w.cell? ⟨g, i * 3, none⟩ = some (.int .i64 (x : Int)) ∧ w.cell? ⟨g, i * 3 + 1, none⟩ = some (.int .i64 (y : Int)) ∧ w.cell? ⟨g, i * 3 + 2, none⟩ = some (.int .i64 (z : Int)) := by
  obtain ⟨g, cap, e⟩ : ∃ g cap, Value.slice aa N ac = .slice (some ⟨g, 0, none⟩) N cap := by
    rcases h.2 with ⟨e, _⟩ | ⟨g, cap, cur, e, _⟩
    · simp only [Value.slice.injEq] at e; omega
    · exact ⟨g, cap, e⟩
  simp only [Value.slice.injEq] at e
  obtain ⟨rfl, _, rfl⟩ := e
  obtain ⟨h1, h2, h3⟩ := arcsL_at ar i x y z ha
  refine ⟨g, rfl, ?_, ?_, ?_⟩
  · rw [h.cellAt (i * 3) (by omega), h1]
  · rw [h.cellAt (i * 3 + 1) (by omega), h2]
  · rw [h.cellAt (i * 3 + 2) (by omega), h3]

theorem dtend_yesS {p : Int} {n l : Nat} {L : List (List Int)} {ys : List Int} {bg : Int} {s : Sea} {w w' : World} {v : Value} {m B : Nat} (h : spCode p n L ys bg = 1) (hs : SpOk p n l L ys bg s) (ho : w'.ownsRow B 3 1 v m ((numsL (fun t => !metB s.ar t) n).map (Value.int .i64))) (hb : Below w.heap.size w w') : WEnd (dtOk p n L ys bg) (dtR p n L ys bg) w (.returned (.tuple #[v, .bool true])) w' := by
  obtain ⟨a, c, rfl, hr⟩ := own_row ho
  refine ⟨a, m, c, by rw [dtOk_yes h], ?_, hb⟩
  unfold dtR; rw [dtOk_yes h, if_pos rfl, hs.is]; exact hr

theorem dtend_yesI {p : Int} {n l : Nat} {L : List (List Int)} {ys : List Int} {bg : Int} {s : Sea} {w w' : World} {v : Value} {m B : Nat} (h : spCode p n L ys bg = 1) (hs : SpOk p n l L ys bg s) (ho : w'.ownsRow B 3 1 v m ((numsL (fun t => !metB s.ar t) n).map (Value.int .i64))) (hB : w.heap.size ≤ B) (hb : Below w.heap.size w w') : OEnd (dtOk p n L ys bg) (dtR p n L ys bg) w (.returned (.tuple #[v, .bool true])) w' := by
  obtain ⟨a, b, c, rfl, hb', hr⟩ := own_ob ho
  refine ⟨a, b, m, c, by rw [dtOk_yes h], ?_, Nat.le_trans hB hb', hb⟩
  unfold dtR; rw [dtOk_yes h, if_pos rfl, hs.is]; exact hr

theorem dtend_noS {p : Int} {n : Nat} {L : List (List Int)} {ys : List Int} {bg : Int} {w w' : World} (h : spCode p n L ys bg ≠ 1) (hb : Below w.heap.size w w') : WEnd (dtOk p n L ys bg) (dtR p n L ys bg) w (.returned (.tuple #[.slice none 0 0, .bool false])) w' := by
  refine ⟨none, 0, 0, by rw [dtOk_no h], ⟨?_, .inl rfl⟩, hb⟩
  unfold dtR; rw [dtOk_no h]; rfl

theorem dtend_noI {p : Int} {n : Nat} {L : List (List Int)} {ys : List Int} {bg : Int} {w w' : World} (h : spCode p n L ys bg ≠ 1) (hb : Below w.heap.size w w') : OEnd (dtOk p n L ys bg) (dtR p n L ys bg) w (.returned (.tuple #[.slice none 0 0, .bool false])) w' := by
  refine ⟨none, w.heap.size, 0, 0, by rw [dtOk_no h], ⟨?_, .inl rfl⟩, Nat.le_refl _, hb⟩
  unfold dtR; rw [dtOk_no h]; rfl

theorem arc_get {ar : List (Nat × Nat × Nat)} {i : Nat} (h : i < ar.length) : ∃ x y z, ar[i]? = some (x, y, z) ∧ (x, y, z) ∈ ar := ⟨_, _, _, List.getElem?_eq_getElem h, List.getElem_mem h⟩


set_option maxHeartbeats 2000000 in
theorem l4dead_any (p : Int) (a aa : Option Addr) (n c ac B : Nat) (mv : Value) (ar : List (Nat × Nat × Nat)) (w : World) (h : w.ownsRow B 49 3 (.slice aa ar.length ac) ar.length (arcsL ar)) (hn : n ≤ 24) (hlen : ar.length ≤ 9600) :
    Calls Try.prog 90 #[.agg #[.int .i64 p, .slice a n c], .agg #[mv, .slice aa ar.length ac]] w fun e w' => NumsEnd (fun t => !metB ar t) n w e w' := by
  have hAl := (below_al w (.cells #[.int .i64 p, .slice a n c] 39)).trans ((below_al (w.alloc (.cells #[.int .i64 p, .slice a n c] 39)) (.cells #[mv, .slice aa ar.length ac] 44)).mono (by simp))
  have HN0 := hide (keep (heap_alloc_new w (.cells #[.int .i64 p, .slice a n c] 39)) (below_al (w.alloc (.cells #[.int .i64 p, .slice a n c] 39)) (.cells #[mv, .slice aa ar.length ac] 44)))
  have HS0 := hide (heap_alloc2_new w (.cells #[.int .i64 p, .slice a n c] 39) (.cells #[mv, .slice aa ar.length ac] 44))
  have HO := hide (ownsRow_kept h fun g hg => hAl.block g (own_lt h hg).2)
  have HB0 := hide hAl
  obtain ⟨i0, hi, hz0, hz1, hz2⟩ := info_split Try.info3
  obtain ⟨N, hNn⟩ : ∃ N, ar.length = N := ⟨_, rfl⟩
  have hNN := hide hNn
  rw [hNn] at HO HN0 HS0 HB0 hlen ⊢
  clear h hAl hNn
  go_enter Try.func90, Try.ntmps90
  obtain ⟨V, hV⟩ : ∃ V, Hid ((w.alloc (.cells #[.int .i64 p, .slice a n c] 39)).alloc (.cells #[mv, .slice aa N ac] 44) = V) := ⟨_, rfl⟩
  rw [hV.out] at HO HN0 HS0 HB0
  obtain ⟨hc0, hc1⟩ := cells2 HN0.out
  go_upto_region 1 with fail
  rw [hV.out]
  clear hV
  go_wp2_with fail
  clear hc0 hc1
  go_loopw [5, 13] (fun o i wr => ∃ k m : Nat, k ≤ n ∧ i = .int .i64 k ∧ Hid (m ≤ k) ∧ Hid (wr.ownsRow V.heap.size 3 1 o m ((numsL (fun t => !metB ar t) k).map (Value.int .i64))) ∧ Hid (Below V.heap.size V wr)) (fun _ i _ => n - (intOf i).toNat)
  case atStart => exact ⟨0, 0, Nat.zero_le _, rfl, Nat.le_refl _, World.ownsRow_nil _ _ _ _, Below.refl _ _⟩
  case round =>
    obtain ⟨k, m, hk, rfl, hmk, hown, hbw⟩ := hrel
    by_cases hlt : k < n
    rotate_left
    · have hk' : k = n := by omega
      subst hk'
      go_wp2_with fail
      go_ret
      exact ⟨_, m, rfl, hown.out.mono HB0.out.size, HB0.out.trans (hbw.out.mono HB0.out.size)⟩
    obtain ⟨hs0, hs1⟩ := cells2 (keep HS0.out hbw.out)
    go_wp2_with fail
    clear hs0 hs1
    go_loopw [7, 19] (fun f i wi => ∃ j : Nat, j ≤ N ∧ i = .int .i64 j ∧ f = .bool (metB (ar.take j) k) ∧ Hid (Below wr.heap.size wr wi)) (fun _ i _ => N - (intOf i).toNat)
    case atStart => exact ⟨0, Nat.zero_le _, rfl, by simp [metB], Below.refl _ _⟩
    case round =>
      obtain ⟨j, hj, rfl, rfl, hbi⟩ := hrel
      by_cases hjN : j < N
      rotate_left
      · have hj' : j = N := by omega
        have hfull : metB (ar.take j) k = metB ar k := by rw [hj', ← hNN.out, List.take_length]
        rw [hfull]
        have HB1 := hide (hbw.out.trans (hbi.out.mono hbw.out.size))
        have HO1 := hide (own_grow hown.out hbi.out)
        clear hown hbw hbi hfull hj hj'
        by_cases hh : metB ar k = true
        · have HN := hide (numsL_no (f := fun t => !metB ar t) (k := k) (by simp [hh]))
          rw [hh]
          clear hh
          go_wp2_with fail
          go_roundw
          case rel => exact ⟨k + 1, m, by omega, by go_num, Nat.le_succ_of_le hmk.out, by rw [HN.out]; exact HO1, HB1⟩
          case measure => simp [intOf]; omega
        · have hh' : metB ar k = false := by simpa using hh
          have HN := hide (numsL_yes (f := fun t => !metB ar t) (k := k) (by simp [hh']))
          rw [hh']
          clear hh hh'
          have hA2 := below_al wr (.cells #[.int .i64 (k : Int)] 3)
          have HO2 := hide (HO1.out.alloc (.cells #[.int .i64 (k : Int)] 3))
          have HB2 := hide (HB1.out.trans (hA2.mono HB1.out.size))
          have HCE : Hid (∀ j u, ([.int .i64 (k : Int)] : List Value)[j]? = some u → (wr.alloc (.cells #[.int .i64 (k : Int)] 3)).cell? ((⟨wr.heap.size, 0, none⟩ : Addr).add j) = some u) := one_cell wr _
          have H1c : Hid (∀ u ∈ ([.int .i64 (k : Int)] : List Value), u.oneCell' = true) := fun u hu => by simp at hu; subst hu; rfl
          have HX := hide (show m + 1 ≤ maxLen by have := hmk.out; unfold maxLen; omega)
          have HY := hide (show (m + 1) * 8 ≤ 140737488355328 by have := hmk.out; omega)
          have HZ := hide HB2.out.size
          clear hA2
          go_wp2_with (refine wpList_append_own _ rfl (.tmp 33) (.tmp 35) 30 rfl V.heap.size 3 i0 (.int .i64 0) 1 8 Try.underlying30 hi hz0 hz1 hz2 rfl (by decide) u5 m _ rfl HO2.out ⟨wr.heap.size, 0, none⟩ 1 1 [.int .i64 (k : Int)] rfl rfl HCE.out H1c.out HX.out HY.out HZ.out ?_; intro v' W' r1 r2 r3)
          have HR1 : Hid (W'.ownsRow V.heap.size 3 1 v' (m + 1) ((numsL (fun t => !metB ar t) (k + 1)).map (Value.int .i64))) := by
            show World.ownsRow _ _ _ _ _ _ _
            rw [HN.out, List.map_append]; exact r1
          have HB3 := hide (own_below HO2.out r2 HB2.out HB2.out.size (Nat.le_refl _))
          clear r1 r2 r3
          go_wp2_with fail
          go_roundw
          case rel => exact ⟨k + 1, m + 1, by omega, by go_num, Nat.succ_le_succ hmk.out, HR1, HB3⟩
          case measure => simp [intOf]; omega
      obtain ⟨x, y, z, hxy, _⟩ := arc_get (show j < ar.length by rw [hNN.out]; exact hjN)
      have hbV := hbw.out.trans (hbi.out.mono hbw.out.size)
      obtain ⟨g, hag, q0, q1, q2⟩ := arcs_at (ownsRow_kept HO.out fun g hg => hbV.block g (own_lt HO.out hg).2) hjN hxy
      have HM := hide (metB_take hxy k)
      obtain ⟨b, hb⟩ : ∃ b, Hid (metB (ar.take j) k = b) := ⟨_, rfl⟩
      rw [hb.out] at HM ⊢
      have HB2 := hide (fun C => hbi.out.trans ((below_al wr (.cells C 49)).mono hbi.out.size))
      have hgj : (j : Int) < (N : Int) := by omega
      have hj9 : (j : Int) ≤ 9600 := by omega
      clear hxy hb hbV
      subst hag
      by_cases hyk : y = k
      · subst hyk
        have HT : Hid (metB (ar.take (j + 1)) y = true) := by show _ = _; rw [HM.out]; simp
        clear HM
        cases b <;>
        · go_wp2_with fail
          go_roundw
          case rel => exact ⟨j + 1, by omega, by go_num, by rw [HT.out], HB2.out _⟩
          case measure => simp [intOf]; omega
      · have HT : Hid (metB (ar.take (j + 1)) k = b) := by show _ = _; rw [HM.out]; simp [hyk]
        have hyf : ((y : Int) == (k : Int)) = false := by simp; omega
        clear HM
        cases b <;>
        · go_wp2_with fail
          go_roundw
          case rel => exact ⟨j + 1, by omega, by go_num, by rw [HT.out], HB2.out _⟩
          case measure => simp [intOf]; omega

set_option maxHeartbeats 1000000 in
theorem deadS_any (p : Int) (a am : Option Addr) (n c nm cm : Nat) (L : List (List Int)) (ys : List Int) (bg : Int) (w : World) (h : Lists w a (3 * n) L) (rm : Row w am nm ys) (hs : sizeN n L ≤ 1048576) (hnm : nm ≤ 1048576) :
    Calls Try.prog 35 #[.agg #[.int .i64 p, .slice a n c], .slice am nm cm, .int .i64 bg] w fun e w' => WEnd (dtOk p n L ys bg) (dtR p n L ys bg) w e w' := by
  have hAl := below_al w (.cells #[.int .i64 p, .slice a n c] 39)
  have HN0 := hide (heap_alloc_new w (.cells #[.int .i64 p, .slice a n c] 39))
  have HX := hide (all_any4 p a am n c nm cm L ys bg _ (h.below hAl) (rm.below hAl) hs hnm)
  have HB0 := hide hAl
  clear h rm hAl
  go_enter Try.func35, Try.ntmps35
  go_wp2_with fail
  generalize w.alloc (.cells #[.int .i64 p, .slice a n c] 39) = v0 at *
  refine HX.out.mono ?_
  rintro e w1 ⟨hb1, hxx⟩
  have HN1 := hide (keep HN0.out hb1)
  have HB1 := hide (HB0.out.trans (hb1.mono HB0.out.size))
  clear hb1 HN0 HB0 HX
  rcases hxx with ⟨hcode, s, ma, mc, aa, ac, hok, rfl, hmr, har⟩ | ⟨hcode, rfl⟩
  rotate_left
  · have HN := hide (dtend_noS (w := w) hcode (HB1.out.trans ((below_al w1 (.cells #[.slice none 0 0, .slice none 0 0] 44)).mono HB1.out.size)))
    clear hcode
    go_wp2_with fail
    go_ret2
    exact HN.out
  have hA3 := below_al w1 (.cells #[.slice ma s.ms.length mc, .slice aa s.ar.length ac] 44)
  have HB3 := hide (HB1.out.trans (hA3.mono HB1.out.size))
  have HN3 := hide (keep HN1.out hA3)
  have HS3 := hide (heap_alloc_new w1 (.cells #[.slice ma s.ms.length mc, .slice aa s.ar.length ac] 44))
  have HD := hide (l4dead_any p a aa n c ac _ (.slice ma s.ms.length mc) s.ar _ (ownsRow_kept har fun g hg => hA3.block g (own_lt har hg).2) hok.n24 hok.len)
  have HY := hide (fun v m B W hx (hW : Below w.heap.size w W) => dtend_yesS (v := v) (m := m) (B := B) (w' := W) (w := w) hcode hok hx hW)
  obtain ⟨hc0, hc1⟩ := cells2 HN3.out
  obtain ⟨hs0, hs1⟩ := cells2 HS3.out
  clear hA3 hmr har HB1 HN1 hcode hok
  go_wp2_with fail
  refine HD.out.mono ?_
  rintro e w2 ⟨v, m, rfl, hown, hb⟩
  have HYY := hide (HY.out _ _ _ _ hown (HB3.out.trans (hb.mono HB3.out.size)))
  clear hown hb
  go_wp2_with fail
  go_ret2
  exact HYY.out

end Go.Proofs.Ytegabkegbhglfaa


/- DeadTrans of the program. -/
namespace Go.Proofs.Ytegabkegbhglfaa
open Go.RowKit
set_option maxRecDepth 10000

theorem Try.info4 : (Try.prog.info? 4).map (fun i => (i.zero, i.size, i.bytes)) = some (some (.bool false), 1, 1) := by kernel_rfl

/-- Block F holds n truths. -/
def BRow (w : World) (F n : Nat) (f : Nat → Bool) : Prop := ∃ C, w.heap[F]? = some (.cells C 4 (0, 0)) ∧ C.size = n ∧ ∀ j, j < n → C[j]? = some (.bool (f j))

theorem BRow.grow {w w' : World} {F n : Nat} {f : Nat → Bool} (h : BRow w F n f) (hb : Below w.heap.size w w') : BRow w' F n f := by
  obtain ⟨C, h1, h2⟩ := h; exact ⟨C, keep h1 hb, h2⟩

theorem BRow.made (w : World) (n : Nat) : BRow (w.alloc (.cells (madeCells #[.bool false] n) 4)) w.heap.size n (fun _ => false) := by
  refine ⟨_, heap_alloc_new _ _, by rw [size_madeCells], fun j hj => ?_⟩
  unfold madeCells
  have e : (j % (#[Value.bool false] : Array Value).size) = 0 := Nat.mod_one j
  rw [Array.getElem?_map, Array.getElem?_range, if_pos hj, Option.map_some, e]
  rfl

theorem BRow.cell {w : World} {F n : Nat} {f : Nat → Bool} (h : BRow w F n f) {j : Nat} (hj : j < n) : w.cell? ⟨F, j, none⟩ = some (.bool (f j)) ∧ w.frozen? ⟨F, j, none⟩ = false := by
  obtain ⟨C, h1, h2, h3⟩ := h
  exact ⟨(cell_of_row w F j C _ _ h1).trans (h3 j hj), frozen_of_row w F j C _ h1⟩

theorem bzero {w : World} {F n : Nat} {ar : List (Nat × Nat × Nat)} (h : BRow w F n (fun _ => false)) : BRow w F n (metB (ar.take 0)) := by
  have e : metB (ar.take 0) = fun _ => false := by funext t; simp [metB]
  rw [e]; exact h

theorem BRow.set {w : World} {F n : Nat} {f f' : Nat → Bool} (h : BRow w F n f) {y : Nat} (hy : y < n) (hf : ∀ t, f' t = (f t || y == t)) : BRow (w.setCell ⟨F, y, none⟩ (.bool true)) F n f' := by
  obtain ⟨C, h1, h2, h3⟩ := h
  refine ⟨C.setIfInBounds y (.bool true), heap_setCell_same _ _ _ _ _ _ h1, by simp [h2], fun j hj => ?_⟩
  rw [Array.getElem?_setIfInBounds, hf j]
  by_cases e : y = j
  · subst e; rw [if_pos rfl, if_pos (by omega)]; simp
  · rw [if_neg e, h3 j hj]; simp [e]


set_option maxHeartbeats 2000000 in
theorem deadI_any (p : Int) (a am : Option Addr) (n c nm cm : Nat) (L : List (List Int)) (ys : List Int) (bg : Int) (w : World) (h : Lists w a (3 * n) L) (rm : Row w am nm ys) (hs : sizeN n L ≤ 1048576) (hnm : nm ≤ 1048576) :
    Calls Try.prog 34 #[.agg #[.int .i64 p, .slice a n c], .slice am nm cm, .int .i64 bg] w fun e w' => OEnd (dtOk p n L ys bg) (dtR p n L ys bg) w e w' := by
  have hAl := below_al w (.cells #[.int .i64 p, .slice a n c] 39)
  have HX := hide (spaceOf_any p a am n c nm cm L ys bg _ (h.below hAl) (rm.below hAl) hs hnm)
  have HB0 := hide hAl
  clear h rm hAl
  go_enter Try.func34, Try.ntmps34
  go_wp2_with fail
  generalize w.alloc (.cells #[.int .i64 p, .slice a n c] 39) = v0 at *
  refine HX.out.mono ?_
  rintro e w1 ⟨hb1, hxx⟩
  have HB1 := hide (HB0.out.trans (hb1.mono HB0.out.size))
  clear hb1 HB0 HX
  have hg0 := heap_alloc_new w1 (.cells spZ 102)
  have hA3 := below_al w1 (.cells spZ 102)
  rcases hxx with ⟨hcode, s, BS, mb, G, av, hok, hst, ⟨aa, ac, rfl⟩, rfl⟩ | ⟨hcode, rfl⟩
  rotate_left
  · have HN := hide (dtend_noI (w := w) hcode (below_setRow (HB1.out.trans (hA3.mono HB1.out.size)) w1.heap.size HB1.out.size spZ))
    obtain ⟨cd, hcd⟩ : ∃ cd, Hid (spCode p n L ys bg = cd) := ⟨_, rfl⟩
    rw [hcd.out] at hcode ⊢
    have hc1 : ¬ ((cd : Nat) : Int) = 1 := by omega
    have hbe : (((cd : Nat) : Int) != 1) = true := by simpa using hc1
    clear hcode hcd hA3
    go_wp2_with ((show wpList _ _ _ (⟨none, .store 102 (.tmp 8) (.tmp 21), _, _, _, _⟩ :: _) _ _); refine wpList_store_row rfl 102 _ _ rfl _ _ rfl rfl 102 _ hg0 Try.size102 rfl spZ_one ?_)
    go_ret2
    exact HN.out
  have hV := below_setRow hA3 w1.heap.size (Nat.le_refl _) (spV p n BS mb G s.ms.length (.slice aa s.ar.length ac))
  have HB3 := hide (HB1.out.trans (hV.mono HB1.out.size))
  have HS3 := hide (hst.grow hV)
  have HV3 := hide (setRow_same hg0 (spV p n BS mb G s.ms.length (.slice aa s.ar.length ac)))
  have hn24 := hok.n24
  have hlen := hok.len
  have HY := hide (fun v m B W hx hB (hW : Below w.heap.size w W) => dtend_yesI (v := v) (m := m) (B := B) (w' := W) (w := w) hcode hok hx hB hW)
  have HOK := hide hok.ok.arc
  clear hA3 hV hst HB1 hcode hok
  obtain ⟨⟨hc0, hc1, hc2, hc3, hc4⟩, _⟩ := cells5 HV3.out
  have hne : ((1 : Int) != 1) = false := by decide
  obtain ⟨i0, hi, hz0, hz1, hz2⟩ := info_split Try.info3
  have hmk := run_make_many (P := Try.prog) 131 4 (.bool false) 1 1 Try.underlying131 Try.info4 .i64 .i64 n (by omega) (by omega)
  go_upto_region 4 with ((show wpList _ _ _ (⟨none, .store 102 (.tmp 8) (.tmp 21), _, _, _, _⟩ :: _) _ _); refine wpList_store_row rfl 102 _ _ rfl _ _ rfl rfl 102 _ hg0 Try.size102 rfl (spV_one _ _ _ _ _ _ _ _ _) ?_)
  clear hg0
  generalize (w1.alloc (.cells spZ 102)).setRow w1.heap.size (spV p n BS mb G s.ms.length (.slice aa s.ar.length ac)) = v3 at *
  have HBR := hide (BRow.made v3 n)
  have hA4 := below_al v3 (.cells (madeCells #[.bool false] n) 4)
  have HB4 := hide hA4
  go_upto_region 5 with fail
  clear hmk hc0 hc1 hc2 hc3 hc4
  generalize v3.alloc (.cells (madeCells #[.bool false] n) 4) = v4 at *
  obtain ⟨⟨hc0, hc1, hc2, hc3, hc4⟩, _⟩ := cells5 (keep HV3.out HB4.out)
  have HAR := hide (ownsRow_kept HS3.out.arcs fun g hg => HB4.out.block g (own_lt HS3.out.arcs hg).2)
  have HL3 := hide (fun g hg => (own_lt HS3.out.arcs (g := g) hg).2)
  obtain ⟨N, hNn⟩ : ∃ N, s.ar.length = N := ⟨_, rfl⟩
  have hNN := hide hNn
  rw [hNn] at HAR hlen hc4 HL3 ⊢
  clear HS3 HV3 hA4 hNn
  go_wp2_with fail
  clear hc0 hc1 hc2 hc3 hc4
  go_loopw [33] (fun i wr => ∃ j : Nat, j ≤ N ∧ i = .int .i64 j ∧ Hid (Below v3.heap.size v3 wr ∧ BRow wr v3.heap.size n (metB (s.ar.take j)))) (fun i _ => N - (intOf i).toNat)
  case atStart => exact ⟨0, Nat.zero_le _, rfl, HB4.out, bzero HBR.out⟩
  case round =>
    obtain ⟨j, hj, rfl, hbr⟩ := hrel
    by_cases hjN : j < N
    rotate_left
    · have hj' : j = N := by omega
      have HBB : Hid (BRow wr v3.heap.size n (metB s.ar)) := by have := hbr.out.2; rwa [hj', ← hNN.out, List.take_length] at this
      have HBW := hide hbr.out.1
      clear hbr hj hjN
      subst hj'
      have hjN : ¬ (j : Int) < (j : Int) := by omega
      obtain ⟨bo, hbo⟩ : ∃ b, wr.heap.size = b := ⟨_, rfl⟩
      go_wp2_with fail
      go_loopw [13, 44] (fun o i wq => ∃ k m : Nat, k ≤ n ∧ i = .int .i64 k ∧ Hid (m ≤ k) ∧ Hid (wq.ownsRow bo 3 1 o m ((numsL (fun t => !metB s.ar t) k).map (Value.int .i64))) ∧ Hid (Below bo wr wq)) (fun _ i _ => n - (intOf i).toNat)
      case atStart => exact ⟨0, 0, Nat.zero_le _, rfl, Nat.le_refl _, World.ownsRow_nil _ _ _ _, Below.refl _ _⟩
      case round =>
        obtain ⟨k, m, hk, rfl, hmk, hown, hbw⟩ := hrel
        have HB1 := hbw
        have HO1 := hown
        by_cases hlt : k < n
        rotate_left
        · have hk' : k = n := by omega
          have hzz := HBW.out.size
          rw [hbo] at hzz
          have HYY := hide (HY.out _ _ _ _ (by rw [hk'] at hown; exact hown.out) (Nat.le_trans HB3.out.size hzz) (HB3.out.trans ((HBW.out.trans (hbw.out.mono hzz)).mono HB3.out.size)))
          clear HY hown HO1
          go_wp2_with fail
          go_ret2
          exact HYY.out
        obtain ⟨hq0, hq1⟩ := (HBB.out.grow (by rw [hbo]; exact hbw.out)).cell hlt
        clear hown hbw
        have hkn : (k : Int) < (n : Int) := by omega
        by_cases hh : metB s.ar k = true
        · have HN := hide (numsL_no (f := fun t => !metB s.ar t) (k := k) (by simp [hh]))
          rw [hh] at hq0
          clear hh
          go_wp2_with fail
          go_roundw
          case rel => exact ⟨k + 1, m, by omega, by go_num, Nat.le_succ_of_le hmk.out, by rw [HN.out]; exact HO1, HB1⟩
          case measure => simp [intOf]; omega
        · have hh' : metB s.ar k = false := by simpa using hh
          have HN := hide (numsL_yes (f := fun t => !metB s.ar t) (k := k) (by simp [hh']))
          rw [hh'] at hq0
          clear hh hh'
          have hA2 := below_al wr (.cells #[.int .i64 (k : Int)] 3)
          have HO2 := hide (HO1.out.alloc (.cells #[.int .i64 (k : Int)] 3))
          have hzb : bo ≤ wr.heap.size := by rw [← hbo]; exact HB1.out.size
          have HB2 := hide (HB1.out.trans (hA2.mono hzb))
          have HCE : Hid (∀ j u, ([.int .i64 (k : Int)] : List Value)[j]? = some u → (wr.alloc (.cells #[.int .i64 (k : Int)] 3)).cell? ((⟨wr.heap.size, 0, none⟩ : Addr).add j) = some u) := one_cell wr _
          have H1c : Hid (∀ u ∈ ([.int .i64 (k : Int)] : List Value), u.oneCell' = true) := fun u hu => by simp at hu; subst hu; rfl
          have HX := hide (show m + 1 ≤ maxLen by have := hmk.out; unfold maxLen; omega)
          have HYb := hide (show (m + 1) * 8 ≤ 140737488355328 by have := hmk.out; omega)
          have HZ := hide (show bo ≤ (wr.alloc (.cells #[.int .i64 (k : Int)] 3)).heap.size from Nat.le_trans hzb hA2.size)
          clear hA2
          go_wp2_with (refine wpList_append_own _ rfl (.tmp 51) (.tmp 53) 30 rfl bo 3 i0 (.int .i64 0) 1 8 Try.underlying30 hi hz0 hz1 hz2 rfl (by decide) u13 m _ rfl HO2.out ⟨wr.heap.size, 0, none⟩ 1 1 [.int .i64 (k : Int)] rfl rfl HCE.out H1c.out HX.out HYb.out HZ.out ?_; intro v' W' r1 r2 r3)
          have HR1 : Hid (W'.ownsRow bo 3 1 v' (m + 1) ((numsL (fun t => !metB s.ar t) (k + 1)).map (Value.int .i64))) := by
            show World.ownsRow _ _ _ _ _ _ _
            rw [HN.out, List.map_append]; exact r1
          have HB3' := hide (own_below HO2.out r2 HB2.out HZ.out (Nat.le_refl _))
          clear r1 r2 r3
          go_wp2_with fail
          go_roundw
          case rel => exact ⟨k + 1, m + 1, by omega, by go_num, Nat.succ_le_succ hmk.out, HR1, HB3'⟩
          case measure => simp [intOf]; omega
    obtain ⟨x, y, z, hxy, hmem⟩ := arc_get (show j < s.ar.length by rw [hNN.out]; exact hjN)
    have hyn := (HOK.out _ hmem).2.1
    have hyn' : y < n := hyn
    have hbV := hbr.out.1
    obtain ⟨g, hag, q0, q1, q2⟩ := arcs_at (ownsRow_kept HAR.out fun g hg => (hbV.block g (HL3.out g hg)).trans (HB4.out.block g (HL3.out g hg)).symm) hjN hxy
    have HM := hide (fun t => metB_take hxy t)
    have hB2 := fun C => below_al wr (.cells C 49)
    have HRS := hide (fun C => (hbr.out.2.grow (hB2 C)).set hyn' HM.out)
    have HRC := hide (fun C => (hbr.out.2.grow (hB2 C)).cell hyn')
    have HBW := hide (fun C v => (hbV.trans ((hB2 C).mono hbV.size)).setCell (p := ⟨v3.heap.size, y, none⟩) (Nat.le_refl _) v)
    obtain ⟨hr0, hr1⟩ := HRC.out #[.int .i64 (x : Int), .int .i64 (y : Int), .int .i64 (z : Int)]
    have hgj : (j : Int) < (N : Int) := by omega
    have hj9 : (j : Int) ≤ 9600 := by omega
    have hyn2 : (y : Int) < (n : Int) := by omega
    have hy0 : (0 : Int) ≤ (y : Int) := by omega
    clear hxy hbV hyn hyn' hmem hB2 HM HRC hbr
    subst hag
    go_wp2_with fail
    go_roundw
    case rel => exact ⟨j + 1, by omega, by go_num, HBW.out _ _, HRS.out _⟩
    case measure => simp [intOf]; omega

end Go.Proofs.Ytegabkegbhglfaa


/- The specification's l4To: which marks can come to one of some. -/
namespace Go.Proofs.Ytegabkegbhglfaa
open Go.RowKit
set_option maxRecDepth 10000

/-- How many truths of block F are told, as memory has it. -/
def cntW4 (w : World) (F N : Nat) : Nat := cntT (fun i => match w.cell? ⟨F, i, none⟩ with | some (.bool b) => b | _ => false) N

theorem cntT_congr {f g : Nat → Bool} : ∀ {N : Nat}, (∀ i, i < N → f i = g i) → cntT f N = cntT g N := by
  intro N
  induction N with
  | zero => intro _; rfl
  | succ N ih => intro h; rw [cntT_succ, cntT_succ, ih fun i hi => h i (by omega), h N (by omega)]

theorem BRow.cnt {w : World} {F N : Nat} {f : Nat → Bool} (h : BRow w F N f) : cntW4 w F N = cntT f N := by
  unfold cntW4
  exact cntT_congr fun i hi => by rw [(h.cell hi).1]

theorem mem_take_upd {cs : List Nat} {k x : Nat} (hx : cs[k]? = some x) (t : Nat) : decide (t ∈ cs.take (k + 1)) = (decide (t ∈ cs.take k) || x == t) := by
  rw [List.take_add_one, hx]
  by_cases h2 : x = t
  · subst h2; simp
  · have h3 : ¬ t = x := fun e => h2 e.symm
    by_cases h1 : t ∈ cs.take k <;> simp [h1, h2, h3]

/-- What the pass over the arcs keeps. -/
structure ToIn (ar : List (Nat × Nat × Nat)) (G : Nat → Prop) (N k : Nat) (f0 f : Nat → Bool) (b : Bool) : Prop where
  good : ∀ i, G i → f i = true
  can : ∀ i, f i = true → CanTo ar G i
  no : b = false → f = f0 ∧ ∀ a ∈ ar.take k, f a.2.2 = true → f a.1 = true
  yes : b = true → cntT f0 N < cntT f N
  le : cntT f0 N ≤ cntT f N

theorem ToIn.skip {ar : List (Nat × Nat × Nat)} {G : Nat → Prop} {N k : Nat} {f0 f : Nat → Bool} {b : Bool} (h : ToIn ar G N k f0 f b) {x y z : Nat} (ha : ar[k]? = some (x, y, z)) (hs : f z = true → f x = true) : ToIn ar G N (k + 1) f0 f b := by
  refine ⟨h.good, h.can, fun e => ⟨(h.no e).1, fun a hm hz => ?_⟩, h.yes, h.le⟩
  rw [List.take_add_one, ha] at hm
  rcases List.mem_append.1 hm with h1 | h1
  · exact (h.no e).2 a h1 hz
  · simp at h1; rw [h1] at hz ⊢; exact hs hz

theorem ToIn.put {ar : List (Nat × Nat × Nat)} {G : Nat → Prop} {N k : Nat} {f0 f : Nat → Bool} {b : Bool} (h : ToIn ar G N k f0 f b) {x y z : Nat} (ha : ar[k]? = some (x, y, z)) (hz : f z = true) (hx : f x = false) (hN : x < N) : ToIn ar G N (k + 1) f0 (updT f x) true := by
  have hc := cntT_upd hx N
  rw [if_pos hN] at hc
  refine ⟨fun i hi => updT_old (h.good i hi), fun i hi => ?_, fun e => by simp at e, fun _ => by have := h.le; omega, by have := h.le; omega⟩
  rcases updT_of hi with e | e
  · exact h.can i e
  · rw [e]; exact .step (List.mem_of_getElem? ha) (h.can z hz)

set_option maxHeartbeats 2000000 in
theorem l4To_any (ma aa ca : Option Addr) (N mc ac nc cc B : Nat) (cs : List Nat) (ar : List (Nat × Nat × Nat)) (w : World) (h : w.ownsRow B 49 3 (.slice aa ar.length ac) ar.length (arcsL ar)) (hN : N ≤ 400) (hlen : ar.length ≤ 9600)
    (har : ∀ a ∈ ar, a.1 < N ∧ a.2.2 < N) (rc : Row w ca nc (cs.map fun (x : Nat) => (x : Int))) (hnc : nc ≤ 1048576) (hcs : ∀ x ∈ cs, x < N) :
    Calls Try.prog 125 #[.agg #[.slice ma N mc, .slice aa ar.length ac], .slice ca nc cc] w fun e w' => ∃ F f, e = .returned (.slice (some ⟨F, 0, none⟩) N N) ∧ w.heap.size ≤ F ∧ BRow w' F N f ∧ (∀ i, f i = true ↔ CanTo ar (fun x => x ∈ cs) i) ∧ Below w.heap.size w w' := by
  have hmk := run_make_many (P := Try.prog) 131 4 (.bool false) 1 1 Try.underlying131 Try.info4 .i64 .i64 N (by omega) (by omega)
  obtain ⟨N2, hN2⟩ : ∃ n, Hid (ar.length = n) := ⟨_, rfl⟩
  have HAR := hide har
  have HCS := hide hcs
  rw [hN2.out] at h hlen ⊢
  have hAl := below_al w (.cells #[.slice ma N mc, .slice aa N2 ac] 44)
  have HS0 := hide (heap_alloc_new w (.cells #[.slice ma N mc, .slice aa N2 ac] 44))
  have HO0 := hide (ownsRow_kept h fun g hg => hAl.block g (own_lt h hg).2)
  have HC0 := hide (rc.below hAl)
  have HB0 := hide hAl
  have hcl : cs.length = nc := by have := rc.1; simpa using this
  clear h rc hAl har hcs
  go_enter Try.func125, Try.ntmps125
  go_upto_region 1 with fail
  generalize w.alloc (.cells #[.slice ma N mc, .slice aa N2 ac] 44) = v at *
  obtain ⟨hc0, hc1⟩ := cells2 HS0.out
  go_upto_region 2 with fail
  clear hmk hc0 hc1
  have HBR := hide (BRow.made v N)
  have HB1 := hide (below_al v (.cells (madeCells #[.bool false] N) 4))
  generalize v.alloc (.cells (madeCells #[.bool false] N) 4) = v1 at *
  have hvs := HB0.out.size
  go_wp2_with fail
  go_loopw [17] (fun i wr => ∃ k : Nat, k ≤ nc ∧ i = .int .i64 k ∧ Hid (Below v.heap.size v wr ∧ BRow wr v.heap.size N (fun t => decide (t ∈ cs.take k)))) (fun i _ => nc - (intOf i).toNat)
  case atStart => exact ⟨0, Nat.zero_le _, rfl, HB1.out, by simpa using HBR.out⟩
  case round =>
    obtain ⟨k, hk, rfl, hbr⟩ := hrel
    by_cases hlt : k < nc
    · obtain ⟨x, hx⟩ : ∃ x, cs[k]? = some x := ⟨_, List.getElem?_eq_getElem (by omega)⟩
      have hxN := HCS.out x (List.mem_of_getElem? hx)
      obtain ⟨b1, o1, y, rfl, hb1, hy1, H1⟩ := (HC0.out.below hbr.out.1).at hlt
      have hyx : y = (x : Int) := by
        have := H1.out
        rw [List.getElem?_map, hx] at this
        simpa using this.symm
      subst hyx
      have HR := hide (hbr.out.2.set hxN (mem_take_upd hx))
      have HB := hide (hbr.out.1.setCell (p := ⟨v.heap.size, x, none⟩) (Nat.le_refl _) (.bool true))
      obtain ⟨hr0, hr1⟩ := hbr.out.2.cell hxN
      have hxi : (x : Int) < (N : Int) := by omega
      have hx0 : (0 : Int) ≤ (x : Int) := by omega
      clear H1 hbr hx
      go_wp2_with fail
      go_roundw
      case rel => exact ⟨k + 1, by omega, by go_num, HB.out, HR.out⟩
      case measure => simp [intOf]; omega
    · have hk' : k = nc := by omega
      have HBB : Hid (BRow wr v.heap.size N (fun t => decide (t ∈ cs))) := by have := hbr.out.2; rwa [hk', ← hcl, List.take_length] at this
      have HBW := hide hbr.out.1
      clear hbr hk
      subst hk'
      have hlt' : ¬ (k : Int) < (k : Int) := by omega
      go_wp2_with fail
      go_loopw [8] (fun fl wq => ∃ b f, fl = .bool b ∧ Hid (Below v.heap.size v wq ∧ BRow wq v.heap.size N f) ∧ Hid (ToIn ar (fun x => x ∈ cs) N ar.length f f false ∨ (b = true ∧ (∀ i, i ∈ cs → f i = true) ∧ ∀ i, f i = true → CanTo ar (fun x => x ∈ cs) i))) (fun fl wq => 2 * (N - cntW4 wq v.heap.size N) + (match fl with | .bool true => 1 | _ => 0))
      case atStart => exact ⟨true, _, rfl, ⟨HBW.out, HBB.out⟩, .inr ⟨rfl, fun i hi => by simpa using hi, fun i hi => .at_ (by simpa using hi)⟩⟩
      case round =>
        obtain ⟨b, f, rfl, hbf, hin⟩ := hrel
        have HQ := hide (show (∀ i, i ∈ cs → f i = true) ∧ ∀ i, f i = true → CanTo ar (fun x => x ∈ cs) i by
          rcases hin.out with h | h
          · exact ⟨h.good, h.can⟩
          · exact h.2)
        cases b
        · have HF : Hid (∀ i, f i = true ↔ CanTo ar (fun x => x ∈ cs) i) := by
            rcases hin.out with h | h
            · refine canTo_iff HQ.out.1 HQ.out.2 fun i t j ha hj => ?_
              exact (h.no rfl).2 (i, t, j) (by rw [List.take_length]; exact ha) hj
            · simp at h
          have HR := hide hbf.out.2
          have HBE := hide (HB0.out.trans (hbf.out.1.mono hvs))
          clear hbf hin HQ
          go_wp2_with fail
          go_ret
          exact ⟨_, f, rfl, hvs, HR.out, HF.out, HBE.out⟩
        · have HBF := hide hbf.out
          have hcw := hbf.out.2.cnt
          obtain ⟨wo, hwo⟩ : ∃ w0, w0 = wr := ⟨_, rfl⟩
          obtain ⟨m0, hm0⟩ : ∃ m, Hid (cntT f N = m) := ⟨_, rfl⟩
          rw [hm0.out] at hcw
          have hmN : m0 ≤ N := by have := cntT_le f N; have := hm0.out; omega
          clear hin hbf
          obtain ⟨hs0, hs1⟩ := cells2 ((HBF.out.1.block _ (row_lt HS0.out)).trans HS0.out)
          go_wp2_with fail
          clear hs0 hs1
          go_loopw [8, 29] (fun fl i wq => ∃ (j : Nat) (b : Bool) (g : Nat → Bool), j ≤ N2 ∧ i = .int .i64 j ∧ fl = .bool b ∧ Hid (Below v.heap.size v wq ∧ BRow wq v.heap.size N g) ∧ Hid (ToIn ar (fun x => x ∈ cs) N j f g b)) (fun _ i _ => N2 - (intOf i).toNat)
          case atStart => exact ⟨0, false, f, Nat.zero_le _, rfl, rfl, HBF.out, ⟨HQ.out.1, HQ.out.2, fun _ => ⟨rfl, fun a ha => by simp at ha⟩, fun e => by simp at e, Nat.le_refl _⟩⟩
          case round =>
            obtain ⟨j, b, g, hj, rfl, rfl, hbg, hto⟩ := hrel
            by_cases hjN : j < N2
            rotate_left
            · have hj' : j = N2 := by omega
              have hcg := hbg.out.2.cnt
              have HX : Hid (ToIn ar (fun x => x ∈ cs) N ar.length g g false ∨ (b = true ∧ (∀ i, i ∈ cs → g i = true) ∧ ∀ i, g i = true → CanTo ar (fun x => x ∈ cs) i)) := by
                cases b
                · refine .inl ⟨hto.out.good, hto.out.can, fun _ => ⟨rfl, ?_⟩, fun e => by simp at e, Nat.le_refl _⟩
                  have := (hto.out.no rfl).2
                  rwa [hj', ← hN2.out] at this
                · exact .inr ⟨rfl, hto.out.good, hto.out.can⟩
              have hms : 2 * (N - cntT g N) + (if b then 1 else 0) < 2 * (N - m0) + 1 := by
                have h1 := hto.out.le
                have h2 := cntT_le g N
                have h3 := hm0.out
                cases b
                · simp; omega
                · have := hto.out.yes rfl; simp; omega
              rw [← hcg] at hms
              clear hto hj hcg hm0
              subst hj'
              have hjj : ¬ (j : Int) < (j : Int) := by omega
              go_wp2_with fail
              go_roundw
              case rel => exact ⟨b, g, rfl, hbg, HX⟩
              case measure => cases b <;> simp_all
            obtain ⟨x, y, z, hxy, hmem⟩ := arc_get (show j < ar.length by rw [hN2.out]; exact hjN)
            obtain ⟨hxN, hzN⟩ : x < N ∧ z < N := HAR.out _ hmem
            obtain ⟨ga, hag, q0, q1, q2⟩ := arcs_at (ownsRow_kept HO0.out fun g' hg' => hbg.out.1.block g' (own_lt HO0.out hg').2) hjN hxy
            have hB2 := fun C => below_al wr (.cells C 49)
            have HBG := hide (fun C => And.intro (hbg.out.1.trans ((hB2 C).mono hbg.out.1.size)) (hbg.out.2.grow (hB2 C)))
            obtain ⟨hz0, hz1⟩ := (HBG.out #[.int .i64 (x : Int), .int .i64 (y : Int), .int .i64 (z : Int)]).2.cell hzN
            obtain ⟨hx0, hx1⟩ := (HBG.out #[.int .i64 (x : Int), .int .i64 (y : Int), .int .i64 (z : Int)]).2.cell hxN
            have hji : (j : Int) < (N2 : Int) := by omega
            have hj9 : (j : Int) ≤ 9600 := by omega
            have hxi : (x : Int) < (N : Int) := by omega
            have hzi : (z : Int) < (N : Int) := by omega
            have hxp : (0 : Int) ≤ (x : Int) := by omega
            have hzp : (0 : Int) ≤ (z : Int) := by omega
            subst hag
            cases hgz : g z
            · have HT := hide (hto.out.skip hxy (fun e => by rw [hgz] at e; cases e))
              rw [hgz] at hz0
              clear hto hgz hbg hB2 hxy hmem
              go_wp2_with fail
              go_roundw
              case rel => exact ⟨j + 1, b, g, by omega, by go_num, rfl, HBG.out _, HT.out⟩
              case measure => simp [intOf]; omega
            · rw [hgz] at hz0
              cases hgx : g x
              · have HT := hide (hto.out.put hxy hgz hgx hxN)
                have HR := hide (fun C => ((HBG.out C).2.set (f' := updT g x) hxN (fun t => rfl)))
                have HB2 := hide (fun C vv => ((HBG.out C).1).setCell (p := ⟨v.heap.size, x, none⟩) (Nat.le_refl _) vv)
                rw [hgx] at hx0
                clear hto hgz hgx hbg hB2 hxy hmem HBG
                go_wp2_with fail
                go_roundw
                case rel => exact ⟨j + 1, true, updT g x, by omega, by go_num, rfl, ⟨HB2.out _ _, HR.out _⟩, HT.out⟩
                case measure => simp [intOf]; omega
              · have HT := hide (hto.out.skip hxy (fun _ => hgx))
                rw [hgx] at hx0
                clear hto hgz hgx hbg hB2 hxy hmem
                go_wp2_with fail
                go_roundw
                case rel => exact ⟨j + 1, b, g, by omega, by go_num, rfl, HBG.out _, HT.out⟩
                case measure => simp [intOf]; omega
end Go.Proofs.Ytegabkegbhglfaa


/- The specification's l4Everywhere and IsHome. -/
namespace Go.Proofs.Ytegabkegbhglfaa
open Go.RowKit
set_option maxRecDepth 10000

/-- How l4Everywhere ends. -/
def EvEnd (ar : List (Nat × Nat × Nat)) (N : Nat) (cs : List Nat) (w : World) (e : Ending) (w' : World) : Prop :=
  ∃ b, e = .returned (.bool b) ∧ (b = true ↔ ∀ i, i < N → CanTo ar (fun x => x ∈ cs) i) ∧ Below w.heap.size w w'

set_option maxHeartbeats 1000000 in
theorem everywhere_any (ma aa ca : Option Addr) (N mc ac nc cc B : Nat) (cs : List Nat) (ar : List (Nat × Nat × Nat)) (w : World) (h : w.ownsRow B 49 3 (.slice aa ar.length ac) ar.length (arcsL ar)) (hN : N ≤ 400) (hlen : ar.length ≤ 9600)
    (har : ∀ a ∈ ar, a.1 < N ∧ a.2.2 < N) (rc : Row w ca nc (cs.map fun (x : Nat) => (x : Int))) (hnc : nc ≤ 1048576) (hcs : ∀ x ∈ cs, x < N) :
    Calls Try.prog 85 #[.agg #[.slice ma N mc, .slice aa ar.length ac], .slice ca nc cc] w fun e w' => EvEnd ar N cs w e w' := by
  have hAl := below_al w (.cells #[.slice ma N mc, .slice aa ar.length ac] 44)
  have HT := hide (l4To_any ma aa ca N mc ac nc cc B cs ar _ (ownsRow_kept h fun g hg => hAl.block g (own_lt h hg).2) hN hlen har (rc.below hAl) hnc hcs)
  have HB0 := hide hAl
  clear h har rc hcs hAl
  generalize ar.length = N2 at *
  go_enter Try.func85, Try.ntmps85
  go_wp2_with fail
  refine HT.out.mono ?_
  rintro e w1 ⟨F, f, rfl, hF, hr, hiff, hb⟩
  have HB1 := hide (HB0.out.trans (hb.mono HB0.out.size))
  have HR := hide hr
  have HI := hide hiff
  clear HT HB0 hr hiff hb
  go_wp2_with fail
  go_loop [11] (fun i => ∃ k : Nat, k ≤ N ∧ i = .int .i64 k ∧ Hid (∀ i, i < k → f i = true)) (fun i => N - (intOf i).toNat)
  case atStart => exact ⟨0, Nat.zero_le _, rfl, fun i hi => absurd hi (by omega)⟩
  case round =>
    obtain ⟨k, hk, rfl, hu⟩ := hrel
    by_cases hlt : k < N
    · obtain ⟨hc, _⟩ := HR.out.cell hlt
      have hkN : (k : Int) < (N : Int) := by omega
      cases hf : f k
      · rw [hf] at hc
        have HE : Hid (false = true ↔ ∀ i, i < N → CanTo ar (fun x => x ∈ cs) i) := ⟨fun e => (by cases e), fun e => (by have := (HI.out k).2 (e k hlt); rw [hf] at this; exact this)⟩
        clear hf hu
        go_wp2_with fail
        go_ret
        exact ⟨false, rfl, HE.out, HB1.out⟩
      · rw [hf] at hc
        have HU : Hid (∀ i, i < k + 1 → f i = true) := fun i hi => by
          by_cases e : i = k
          · rw [e]; exact hf
          · exact hu.out i (by omega)
        clear hf hu
        go_wp2_with fail
        go_round
        case rel => exact ⟨k + 1, by omega, by go_num, HU⟩
        case measure => simp [intOf]; omega
    · have HE : Hid (∀ i, i < N → CanTo ar (fun x => x ∈ cs) i) := fun i hi => (HI.out i).1 (hu.out i (by omega))
      have hk' : k = N := by omega
      clear hu
      subst hk'
      go_wp2_with fail
      go_ret
      exact ⟨true, rfl, ⟨fun _ => HE.out, fun _ => rfl⟩, HB1.out⟩

/-- From each mark one can come to xs. -/
def HomeP (s : Sea) (xs : List Int) : Prop := ∀ i, i < s.ms.length → CanTo s.ar (fun x => x < s.ms.length ∧ s.ms.getD x [] = xs) i

open Classical in
/-- What IsHome tells. -/
noncomputable def ihR (p : Int) (n : Nat) (L : List (List Int)) (ys : List Int) (bg : Int) (xs : List Int) : Bool := saOk p n L ys bg xs && decide (HomeP (spSea p n L ys bg) xs)

/-- How IsHome ends. -/
def IhEnd (p : Int) (n : Nat) (L : List (List Int)) (ys : List Int) (bg : Int) (xs : List Int) (w : World) (e : Ending) (w' : World) : Prop :=
  e = .returned (.tuple #[.bool (ihR p n L ys bg xs), .bool (saOk p n L ys bg xs)]) ∧ Below w.heap.size w w'

theorem ihEnd_no {p : Int} {n : Nat} {L : List (List Int)} {ys xs : List Int} {bg : Int} {w w' : World} (h : saOk p n L ys bg xs = false) (hb : Below w.heap.size w w') : IhEnd p n L ys bg xs w (.returned (.tuple #[.bool false, .bool false])) w' := by
  refine ⟨?_, hb⟩
  unfold ihR; rw [h]; rfl

theorem ihEnd_yes {p : Int} {n l : Nat} {L : List (List Int)} {ys xs : List Int} {bg : Int} {s : Sea} {w w' : World} {b : Bool} (h : saOk p n L ys bg xs = true) (hs : SpOk p n l L ys bg s) (hx : b = true ↔ HomeP s xs) (hb : Below w.heap.size w w') : IhEnd p n L ys bg xs w (.returned (.tuple #[.bool b, .bool true])) w' := by
  refine ⟨?_, hb⟩
  unfold ihR
  rw [h, hs.is]
  have e : (true && @decide (HomeP s xs) (Classical.propDecidable _)) = b := by
    cases b
    · simp only [Bool.true_and, decide_eq_false_iff_not]; exact fun e => by have := hx.2 e; cases this
    · simp only [Bool.true_and, decide_eq_true_eq]; exact hx.1 rfl
  rw [e]

theorem CanTo.congr {ar : List (Nat × Nat × Nat)} {G G' : Nat → Prop} (h : ∀ i, G i ↔ G' i) {i : Nat} : CanTo ar G i ↔ CanTo ar G' i :=
  ⟨CanTo.least (S := CanTo ar G') (fun i hi => .at_ ((h i).1 hi)) fun _ _ _ ha hj => .step ha hj, CanTo.least (S := CanTo ar G) (fun i hi => .at_ ((h i).2 hi)) fun _ _ _ ha hj => .step ha hj⟩

theorem at_idx {s : Sea} {p : Int} {n B : Nat} (hs : SeaOk p n B s) {xs : List Int} (hx : xs ∈ s.ms) (i : Nat) : i ∈ [s.ms.idxOf xs] ↔ (i < s.ms.length ∧ s.ms.getD i [] = xs) := by
  have hlt := List.idxOf_lt_length_of_mem hx
  rw [List.mem_singleton]
  constructor
  · rintro rfl
    refine ⟨hlt, ?_⟩
    rw [List.getD_eq_getElem?_getD, List.getElem?_eq_getElem hlt]
    exact List.getElem_idxOf hlt
  · rintro ⟨h1, h2⟩
    rw [← h2]
    exact (idxOf_at hs.nodup h1).symm

theorem no_idx {s : Sea} {xs : List Int} (hx : xs ∉ s.ms) (i : Nat) : i ∈ ([] : List Nat) ↔ (i < s.ms.length ∧ s.ms.getD i [] = xs) := by
  constructor
  · intro h; cases h
  · rintro ⟨h1, h2⟩
    exact absurd (h2 ▸ mem_at h1) hx

theorem arcs_lt {p : Int} {n l : Nat} {L : List (List Int)} {ys : List Int} {bg : Int} {s : Sea} (hs : SpOk p n l L ys bg s) : ∀ a ∈ s.ar, a.1 < s.ms.length ∧ a.2.2 < s.ms.length := fun a ha => ⟨(hs.ok.arc a ha).1, (hs.ok.arc a ha).2.2⟩

set_option maxHeartbeats 2000000 in
theorem homeS_any (p : Int) (a am ax : Option Addr) (n c nm cm nx cx : Nat) (L : List (List Int)) (ys xs : List Int) (bg : Int) (w : World) (h : Lists w a (3 * n) L) (rm : Row w am nm ys) (rx : Row w ax nx xs) (hs : sizeN n L ≤ 1048576) (hnm : nm ≤ 1048576) (hnx : nx ≤ 1048576) :
    Calls Try.prog 41 #[.agg #[.int .i64 p, .slice a n c], .slice am nm cm, .int .i64 bg, .slice ax nx cx] w fun e w' => IhEnd p n L ys bg xs w e w' := by
  have hAl := below_al w (.cells #[.int .i64 p, .slice a n c] 39)
  have HN0 := hide (heap_alloc_new w (.cells #[.int .i64 p, .slice a n c] 39))
  have HX := hide (all_any4 p a am n c nm cm L ys bg _ (h.below hAl) (rm.below hAl) hs hnm)
  have HX0 := hide (rx.below hAl)
  have HB0 := hide hAl
  clear h rm rx hAl
  go_enter Try.func41, Try.ntmps41
  go_wp2_with fail
  generalize w.alloc (.cells #[.int .i64 p, .slice a n c] 39) = v0 at *
  refine HX.out.mono ?_
  rintro e w1 ⟨hb1, hxx⟩
  have HN1 := hide (keep HN0.out hb1)
  have HX1 := hide (HX0.out.below hb1)
  have HB1 := hide (HB0.out.trans (hb1.mono HB0.out.size))
  clear hb1 HN0 HB0 HX HX0
  rcases hxx with ⟨hcode, s, ma, mc, aa, ac, hok, rfl, hmr, har⟩ | ⟨hcode, rfl⟩
  rotate_left
  · have HN := hide (ihEnd_no (w := w) (saOk_code (xs := xs) hcode) (HB1.out.trans ((below_al w1 (.cells #[.slice none 0 0, .slice none 0 0] 44)).mono HB1.out.size)))
    clear hcode
    go_wp2_with fail
    go_ret2
    exact HN.out
  have hA3 := below_al w1 (.cells #[.slice ma s.ms.length mc, .slice aa s.ar.length ac] 44)
  have HB3 := hide (HB1.out.trans (hA3.mono HB1.out.size))
  have HN3 := hide (keep HN1.out hA3)
  have HX3 := hide (HX1.out.below hA3)
  have HG := hide (goodS_any p ax nx cx xs _ HX3.out hnx)
  obtain ⟨hc0, hc1⟩ := cells2 HN3.out
  have hl16 := hok.l16
  have HM3 := hide ((hmr.go hA3).lists (show nm ≤ maxLen by unfold maxLen; omega))
  have HA3 := hide (ownsRow_kept har fun g hg => hA3.block g (own_lt har hg).2)
  have HS3 := hide (heap_alloc_new w1 (.cells #[.slice ma s.ms.length mc, .slice aa s.ar.length ac] 44))
  have hmx : s.ms.length ≤ 1048576 := by have := hok.m4; omega
  have hm4 := hok.m4
  have hlen := hok.len
  have HFI := hide (find_any ma ax s.ms.length mc nx cx s.ms xs _ HM3.out HX3.out hmx hnx)
  clear hA3 hmr har HB1 HN1 HX1
  by_cases hq : goodB p xs = true
  rotate_left
  · have hq' : goodB p xs = false := by simpa using hq
    have HN := hide (ihEnd_no (w := w) (saOk_good (n := n) (L := L) (ys := ys) (bg := bg) hq') HB3.out)
    rw [hq'] at HG
    clear hq HFI
    go_wp2_with (go_at_call 49; refine HG.out.mono ?_; rintro e w' ⟨rfl, rfl⟩)
    go_ret2
    exact HN.out
  rw [hq] at HG
  have HOK := hide hok
  have hso := saOk_yes hcode hq
  clear hcode hok
  obtain ⟨hs0, hs1⟩ := cells2 HS3.out
  by_cases hin : xs ∈ s.ms
  · have HN := hide (fun W b hx (hW : Below w.heap.size w W) => ihEnd_yes (w := w) (w' := W) (b := b) hso HOK.out hx hW)
    have HIX := hide (fun i => at_idx (xs := xs) HOK.out.ok hin i)
    have hixl : s.ms.idxOf xs < s.ms.length := List.idxOf_lt_length_of_mem hin
    unfold findL at HFI
    rw [if_pos hin] at HFI
    have hpos : (0 : Int) ≤ (s.ms.idxOf xs : Int) := by omega
    clear hin hso
    generalize s.ms.idxOf xs = ix at *
    go_wp2_with (go_at_call 49; refine HG.out.mono ?_; rintro e w' ⟨rfl, rfl⟩)
    generalize w1.alloc (.cells #[.slice ma s.ms.length mc, .slice aa s.ar.length ac] 44) = v3 at *
    refine HFI.out.mono ?_
    rintro e w2 ⟨rfl, q, rfl⟩
    have hbq := below_drewN' v3 q
    have HB4 := hide (HB3.out.trans (hbq.mono HB3.out.size))
    have HS4 := hide (keep HS3.out hbq)
    have HA4 := hide (ownsRow_kept HA3.out fun g hg => hbq.block g (own_lt HA3.out hg).2)
    generalize v3.drewN q = v4 at *
    clear HG HFI HB3 HS3 HN3 HX3 HM3 HA3 hc0 hc1 hs0 hs1 hbq
    obtain ⟨i0, hi, hz0, hz1, hz2⟩ := info_split Try.info3
    have hA5 := below_al v4 (.cells #[.int .i64 (ix : Int)] 3)
    have HO5 := hide ((World.ownsRow_nil v4 v4.heap.size 3 1).alloc (.cells #[.int .i64 (ix : Int)] 3))
    have HB5 := hide (HB4.out.trans (hA5.mono HB4.out.size))
    have HCE : Hid (∀ j u, ([.int .i64 (ix : Int)] : List Value)[j]? = some u → (v4.alloc (.cells #[.int .i64 (ix : Int)] 3)).cell? ((⟨v4.heap.size, 0, none⟩ : Addr).add j) = some u) := one_cell v4 _
    have H1c : Hid (∀ u ∈ ([.int .i64 (ix : Int)] : List Value), u.oneCell' = true) := fun u hu => by simp at hu; subst hu; rfl
    have HXb := hide (show 0 + 1 ≤ maxLen by unfold maxLen; omega)
    have HYb := hide (show (0 + 1) * 8 ≤ 140737488355328 by omega)
    have HZb := hide hA5.size
    have HA5 := hide hA5
    go_upto_region 8 with (refine wpList_append_own _ rfl (.tmp 36) (.tmp 38) 30 rfl v4.heap.size 3 i0 (.int .i64 0) 1 8 Try.underlying30 hi hz0 hz1 hz2 rfl (by decide) (.slice none 0 0) 0 _ rfl HO5.out ⟨v4.heap.size, 0, none⟩ 1 1 [.int .i64 (ix : Int)] rfl rfl HCE.out H1c.out HXb.out HYb.out HZb.out ?_; intro v' W' r1 r2 r3)
    have hr1 := r1
    rw [List.nil_append] at hr1
    obtain ⟨oa, oc, rfl, hrow⟩ := own_row (l := [(ix : Int)]) (by simpa using hr1)
    have hbw := own_below HO5.out r2 HA5.out HZb.out (Nat.le_refl _)
    have HB6 := hide (HB4.out.trans (hbw.mono HB4.out.size))
    have HS6 := hide (keep HS4.out hbw)
    have HEV := hide (everywhere_any ma aa oa s.ms.length mc ac (0 + 1) oc _ [ix] s.ar W' (ownsRow_kept HA4.out fun g hg => hbw.block g (own_lt HA4.out hg).2) hm4 hlen (arcs_lt HOK.out) (by simpa using hrow) (by omega) (fun x hx => by rw [List.mem_singleton.1 hx]; exact hixl))
    obtain ⟨hs0, hs1⟩ := cells2 HS6.out
    clear r1 r2 r3 hr1 hrow hbw HO5 HB5 HCE H1c HXb HYb HZb HA5 HS4 HA4 HB4
    go_wp2_with fail
    refine HEV.out.mono ?_
    rintro e w7 ⟨b, rfl, hbb, hb⟩
    have HE := hide (HN.out w7 b (hbb.trans ⟨fun hh i hi => (CanTo.congr HIX.out).1 (hh i hi), fun hh i hi => (CanTo.congr HIX.out).2 (hh i hi)⟩) (HB6.out.trans (hb.mono HB6.out.size)))
    clear hbb hb
    go_wp2_with fail
    go_ret2
    exact HE.out
  · have HN := hide (fun W b hx (hW : Below w.heap.size w W) => ihEnd_yes (w := w) (w' := W) (b := b) hso HOK.out hx hW)
    have HIX := hide (fun i => no_idx (s := s) (xs := xs) hin i)
    unfold findL at HFI
    rw [if_neg hin] at HFI
    clear hin hso
    go_wp2_with (go_at_call 49; refine HG.out.mono ?_; rintro e w' ⟨rfl, rfl⟩)
    generalize w1.alloc (.cells #[.slice ma s.ms.length mc, .slice aa s.ar.length ac] 44) = v3 at *
    refine HFI.out.mono ?_
    rintro e w2 ⟨rfl, q, rfl⟩
    have hbq := below_drewN' v3 q
    have HB4 := hide (HB3.out.trans (hbq.mono HB3.out.size))
    have HS4 := hide (keep HS3.out hbq)
    have HA4 := hide (ownsRow_kept HA3.out fun g hg => hbq.block g (own_lt HA3.out hg).2)
    generalize v3.drewN q = v4 at *
    clear HG HFI HB3 HS3 HN3 HX3 HM3 HA3 hc0 hc1 hs0 hs1 hbq
    have HEV := hide (everywhere_any ma aa none s.ms.length mc ac 0 0 _ [] s.ar v4 HA4.out hm4 hlen (arcs_lt HOK.out) ⟨rfl, .inl rfl⟩ (by omega) (fun x hx => by cases hx))
    obtain ⟨hs0, hs1⟩ := cells2 HS4.out
    go_wp2_with fail
    refine HEV.out.mono ?_
    rintro e w7 ⟨b, rfl, hbb, hb⟩
    have HE := hide (HN.out w7 b (hbb.trans ⟨fun hh i hi => (CanTo.congr HIX.out).1 (hh i hi), fun hh i hi => (CanTo.congr HIX.out).2 (hh i hi)⟩) (HB4.out.trans (hb.mono HB4.out.size)))
    clear hbb hb
    go_wp2_with fail
    go_ret2
    exact HE.out
end Go.Proofs.Ytegabkegbhglfaa
