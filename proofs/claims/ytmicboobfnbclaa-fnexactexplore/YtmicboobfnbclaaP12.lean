/- Contracts that the proof stands on, one behind the other. -/
import Derived.Test.YtmicboobfnbclaaP11
/- DeadTrans of both: the transitions that no arc of the whole space is by. -/
namespace Go.Proofs.Ytmicboobfnbclaa
open Go.RowKit
set_option maxRecDepth 10000

def metB (ar : List (Nat × Nat × Nat)) (t : Nat) : Bool := ar.any fun a => a.2.1 == t
def deadL (n : Nat) (ar : List (Nat × Nat × Nat)) : List Int := numsL (fun t => !metB ar t) n
def dtOk (p : Int) (n : Nat) (L : List (List Int)) (ys : List Int) (bg : Int) : Bool := decide (spCode p n L ys bg = 1)
def dtR (p : Int) (n : Nat) (L : List (List Int)) (ys : List Int) (bg : Int) : List Int := if dtOk p n L ys bg then deadL n (spSea p n L ys bg).ar else []

theorem dtOk_yes {p : Int} {n : Nat} {L : List (List Int)} {ys : List Int} {bg : Int} (h : spCode p n L ys bg = 1) : dtOk p n L ys bg = true := by unfold dtOk; simp [h]
theorem dtOk_no {p : Int} {n : Nat} {L : List (List Int)} {ys : List Int} {bg : Int} (h : spCode p n L ys bg ≠ 1) : dtOk p n L ys bg = false := by unfold dtOk; simp [h]

theorem metB_take {ar : List (Nat × Nat × Nat)} {i x y z : Nat} (h : ar[i]? = some (x, y, z)) (t : Nat) : metB (ar.take (i + 1)) t = (metB (ar.take i) t || y == t) := by
  unfold metB
  rw [List.take_add_one, h, List.any_append]
  simp

theorem arcsL_at : ∀ (ar : List (Nat × Nat × Nat)) (i x y z : Nat), ar[i]? = some (x, y, z) → (arcsL ar)[i * 3]? = some (.int .i64 (x : Int)) ∧ (arcsL ar)[i * 3 + 1]? = some (.int .i64 (y : Int)) ∧ (arcsL ar)[i * 3 + 2]? = some (.int .i64 (z : Int)) := by
  intro ar
  induction ar with
  | nil => intro i x y z h; simp at h
  | cons a r ih =>
    intro i x y z h
    have e : arcsL (a :: r) = [.int .i64 (a.1 : Int), .int .i64 (a.2.1 : Int), .int .i64 (a.2.2 : Int)] ++ arcsL r := by simp [arcsL]
    rw [e]
    cases i with
    | zero => simp at h; subst h; exact ⟨rfl, rfl, rfl⟩
    | succ i =>
      have h' : r[i]? = some (x, y, z) := by simpa using h
      obtain ⟨h1, h2, h3⟩ := ih i x y z h'
      refine ⟨?_, ?_, ?_⟩
      · rw [List.getElem?_append_right (by simp; omega)]; rw [← h1]; congr 1; simp; omega
      · rw [List.getElem?_append_right (by simp; omega)]; rw [← h2]; congr 1; simp; omega
      · rw [List.getElem?_append_right (by simp; omega)]; rw [← h3]; congr 1; simp; omega

/-- An arc in memory. -/
theorem arcs_at {w : World} {B : Nat} {aa : Option Addr} {N ac : Nat} {ar : List (Nat × Nat × Nat)} (h : w.ownsRow B 91 3 (.slice aa N ac) N (arcsL ar)) {i : Nat} (hi : i < N) {x y z : Nat} (ha : ar[i]? = some (x, y, z)) :
    ∃ g, aa = some ⟨g, 0, none⟩ ∧ w.cell? ⟨g, i * 3, none⟩ = some (.int .i64 (x : Int)) ∧ w.cell? ⟨g, i * 3 + 1, none⟩ = some (.int .i64 (y : Int)) ∧ w.cell? ⟨g, i * 3 + 2, none⟩ = some (.int .i64 (z : Int)) := by
  obtain ⟨g, cap, e⟩ : ∃ g cap, Value.slice aa N ac = .slice (some ⟨g, 0, none⟩) N cap := by
    rcases h.2 with ⟨e, _⟩ | ⟨g, cap, cur, e, _⟩
    · simp only [Value.slice.injEq] at e; omega
    · exact ⟨g, cap, e⟩
  simp only [Value.slice.injEq] at e
  obtain ⟨rfl, _, rfl⟩ := e
  obtain ⟨h1, h2, h3⟩ := arcsL_at ar i x y z ha
  refine ⟨g, rfl, ?_, ?_, ?_⟩
  · rw [h.cellAt (i * 3) (by omega), h1]
  · rw [h.cellAt (i * 3 + 1) (by omega), h2]
  · rw [h.cellAt (i * 3 + 2) (by omega), h3]

theorem dtend_yesS {p : Int} {n l : Nat} {L : List (List Int)} {ys : List Int} {bg : Int} {s : Sea} {w w' : World} {v : Value} {m B : Nat} (h : spCode p n L ys bg = 1) (hs : SpOk p n l L ys bg s) (ho : w'.ownsRow B 3 1 v m ((numsL (fun t => !metB s.ar t) n).map (Value.int .i64))) (hb : Below w.heap.size w w') : WEnd (dtOk p n L ys bg) (dtR p n L ys bg) w (.returned (.tuple #[v, .bool true])) w' := by
  obtain ⟨a, c, rfl, hr⟩ := own_row ho
  refine ⟨a, m, c, by rw [dtOk_yes h], ?_, hb⟩
  unfold dtR; rw [dtOk_yes h, if_pos rfl, hs.is]; exact hr

theorem dtend_yesI {p : Int} {n l : Nat} {L : List (List Int)} {ys : List Int} {bg : Int} {s : Sea} {w w' : World} {v : Value} {m B : Nat} (h : spCode p n L ys bg = 1) (hs : SpOk p n l L ys bg s) (ho : w'.ownsRow B 3 1 v m ((numsL (fun t => !metB s.ar t) n).map (Value.int .i64))) (hB : w.heap.size ≤ B) (hb : Below w.heap.size w w') : OEnd (dtOk p n L ys bg) (dtR p n L ys bg) w (.returned (.tuple #[v, .bool true])) w' := by
  obtain ⟨a, b, c, rfl, hb', hr⟩ := own_ob ho
  refine ⟨a, b, m, c, by rw [dtOk_yes h], ?_, Nat.le_trans hB hb', hb⟩
  unfold dtR; rw [dtOk_yes h, if_pos rfl, hs.is]; exact hr

theorem dtend_noS {p : Int} {n : Nat} {L : List (List Int)} {ys : List Int} {bg : Int} {w w' : World} (h : spCode p n L ys bg ≠ 1) (hb : Below w.heap.size w w') : WEnd (dtOk p n L ys bg) (dtR p n L ys bg) w (.returned (.tuple #[.slice none 0 0, .bool false])) w' := by
  refine ⟨none, 0, 0, by rw [dtOk_no h], ⟨?_, .inl rfl⟩, hb⟩
  unfold dtR; rw [dtOk_no h]; rfl

theorem dtend_noI {p : Int} {n : Nat} {L : List (List Int)} {ys : List Int} {bg : Int} {w w' : World} (h : spCode p n L ys bg ≠ 1) (hb : Below w.heap.size w w') : OEnd (dtOk p n L ys bg) (dtR p n L ys bg) w (.returned (.tuple #[.slice none 0 0, .bool false])) w' := by
  refine ⟨none, w.heap.size, 0, 0, by rw [dtOk_no h], ⟨?_, .inl rfl⟩, Nat.le_refl _, hb⟩
  unfold dtR; rw [dtOk_no h]; rfl

theorem arc_get {ar : List (Nat × Nat × Nat)} {i : Nat} (h : i < ar.length) : ∃ x y z, ar[i]? = some (x, y, z) ∧ (x, y, z) ∈ ar := ⟨_, _, _, List.getElem?_eq_getElem h, List.getElem_mem h⟩


set_option maxHeartbeats 2000000 in
theorem l4dead_any (p : Int) (a aa : Option Addr) (n c ac B : Nat) (mv : Value) (ar : List (Nat × Nat × Nat)) (w : World) (h : w.ownsRow B 91 3 (.slice aa ar.length ac) ar.length (arcsL ar)) (hn : n ≤ 24) (hlen : ar.length ≤ 9600) :
    Calls Try.prog 57 #[.agg #[.int .i64 p, .slice a n c], .agg #[mv, .slice aa ar.length ac]] w fun e w' => NumsEnd (fun t => !metB ar t) n w e w' := by
  have hAl := (below_al w (.cells #[.int .i64 p, .slice a n c] 35)).trans ((below_al (w.alloc (.cells #[.int .i64 p, .slice a n c] 35)) (.cells #[mv, .slice aa ar.length ac] 30)).mono (by simp))
  have HN0 := hide (keep (heap_alloc_new w (.cells #[.int .i64 p, .slice a n c] 35)) (below_al (w.alloc (.cells #[.int .i64 p, .slice a n c] 35)) (.cells #[mv, .slice aa ar.length ac] 30)))
  have HS0 := hide (heap_alloc2_new w (.cells #[.int .i64 p, .slice a n c] 35) (.cells #[mv, .slice aa ar.length ac] 30))
  have HO := hide (ownsRow_kept h fun g hg => hAl.block g (own_lt h hg).2)
  have HB0 := hide hAl
  obtain ⟨i0, hi, hz0, hz1, hz2⟩ := info_split Try.info3
  obtain ⟨N, hNn⟩ : ∃ N, ar.length = N := ⟨_, rfl⟩
  have hNN := hide hNn
  rw [hNn] at HO HN0 HS0 HB0 hlen ⊢
  clear h hAl hNn
  go_enter Try.func57, Try.ntmps57
  obtain ⟨V, hV⟩ : ∃ V, Hid ((w.alloc (.cells #[.int .i64 p, .slice a n c] 35)).alloc (.cells #[mv, .slice aa N ac] 30) = V) := ⟨_, rfl⟩
  rw [hV.out] at HO HN0 HS0 HB0
  obtain ⟨hc0, hc1⟩ := cells2 HN0.out
  go_upto_region 1 with fail
  rw [hV.out]
  clear hV
  go_wp2_with fail
  clear hc0 hc1
  go_loopw [5, 13] (fun o i wr => ∃ k m : Nat, k ≤ n ∧ i = .int .i64 k ∧ Hid (m ≤ k) ∧ Hid (wr.ownsRow V.heap.size 3 1 o m ((numsL (fun t => !metB ar t) k).map (Value.int .i64))) ∧ Hid (Below V.heap.size V wr)) (fun _ i _ => n - (intOf i).toNat)
  case atStart => exact ⟨0, 0, Nat.zero_le _, rfl, Nat.le_refl _, World.ownsRow_nil _ _ _ _, Below.refl _ _⟩
  case round =>
    obtain ⟨k, m, hk, rfl, hmk, hown, hbw⟩ := hrel
    by_cases hlt : k < n
    rotate_left
    · have hk' : k = n := by omega
      subst hk'
      go_wp2_with fail
      go_ret
      exact ⟨_, m, rfl, hown.out.mono HB0.out.size, HB0.out.trans (hbw.out.mono HB0.out.size)⟩
    obtain ⟨hs0, hs1⟩ := cells2 (keep HS0.out hbw.out)
    go_wp2_with fail
    clear hs0 hs1
    go_loopw [7, 19] (fun f i wi => ∃ j : Nat, j ≤ N ∧ i = .int .i64 j ∧ f = .bool (metB (ar.take j) k) ∧ Hid (Below wr.heap.size wr wi)) (fun _ i _ => N - (intOf i).toNat)
    case atStart => exact ⟨0, Nat.zero_le _, rfl, by simp [metB], Below.refl _ _⟩
    case round =>
      obtain ⟨j, hj, rfl, rfl, hbi⟩ := hrel
      by_cases hjN : j < N
      rotate_left
      · have hj' : j = N := by omega
        have hfull : metB (ar.take j) k = metB ar k := by rw [hj', ← hNN.out, List.take_length]
        rw [hfull]
        have HB1 := hide (hbw.out.trans (hbi.out.mono hbw.out.size))
        have HO1 := hide (own_grow hown.out hbi.out)
        clear hown hbw hbi hfull hj hj'
        by_cases hh : metB ar k = true
        · have HN := hide (numsL_no (f := fun t => !metB ar t) (k := k) (by simp [hh]))
          rw [hh]
          clear hh
          go_wp2_with fail
          go_roundw
          case rel => exact ⟨k + 1, m, by omega, by go_num, Nat.le_succ_of_le hmk.out, by rw [HN.out]; exact HO1, HB1⟩
          case measure => simp [intOf]; omega
        · have hh' : metB ar k = false := by simpa using hh
          have HN := hide (numsL_yes (f := fun t => !metB ar t) (k := k) (by simp [hh']))
          rw [hh']
          clear hh hh'
          have hA2 := below_al wr (.cells #[.int .i64 (k : Int)] 3)
          have HO2 := hide (HO1.out.alloc (.cells #[.int .i64 (k : Int)] 3))
          have HB2 := hide (HB1.out.trans (hA2.mono HB1.out.size))
          have HCE : Hid (∀ j u, ([.int .i64 (k : Int)] : List Value)[j]? = some u → (wr.alloc (.cells #[.int .i64 (k : Int)] 3)).cell? ((⟨wr.heap.size, 0, none⟩ : Addr).add j) = some u) := one_cell wr _
          have H1c : Hid (∀ u ∈ ([.int .i64 (k : Int)] : List Value), u.oneCell' = true) := fun u hu => by simp at hu; subst hu; rfl
          have HX := hide (show m + 1 ≤ maxLen by have := hmk.out; unfold maxLen; omega)
          have HY := hide (show (m + 1) * 8 ≤ 140737488355328 by have := hmk.out; omega)
          have HZ := hide HB2.out.size
          clear hA2
          go_wp2_with (refine wpList_append_own _ rfl (.tmp 33) (.tmp 35) 25 rfl V.heap.size 3 i0 (.int .i64 0) 1 8 Try.underlying25 hi hz0 hz1 hz2 rfl (by decide) u5 m _ rfl HO2.out ⟨wr.heap.size, 0, none⟩ 1 1 [.int .i64 (k : Int)] rfl rfl HCE.out H1c.out HX.out HY.out HZ.out ?_; intro v' W' r1 r2 r3)
          have HR1 : Hid (W'.ownsRow V.heap.size 3 1 v' (m + 1) ((numsL (fun t => !metB ar t) (k + 1)).map (Value.int .i64))) := by
            show World.ownsRow _ _ _ _ _ _ _
            rw [HN.out, List.map_append]; exact r1
          have HB3 := hide (own_below HO2.out r2 HB2.out HB2.out.size (Nat.le_refl _))
          clear r1 r2 r3
          go_wp2_with fail
          go_roundw
          case rel => exact ⟨k + 1, m + 1, by omega, by go_num, Nat.succ_le_succ hmk.out, HR1, HB3⟩
          case measure => simp [intOf]; omega
      obtain ⟨x, y, z, hxy, _⟩ := arc_get (show j < ar.length by rw [hNN.out]; exact hjN)
      have hbV := hbw.out.trans (hbi.out.mono hbw.out.size)
      obtain ⟨g, hag, q0, q1, q2⟩ := arcs_at (ownsRow_kept HO.out fun g hg => hbV.block g (own_lt HO.out hg).2) hjN hxy
      have HM := hide (metB_take hxy k)
      obtain ⟨b, hb⟩ : ∃ b, Hid (metB (ar.take j) k = b) := ⟨_, rfl⟩
      rw [hb.out] at HM ⊢
      have HB2 := hide (fun C => hbi.out.trans ((below_al wr (.cells C 91)).mono hbi.out.size))
      have hgj : (j : Int) < (N : Int) := by omega
      have hj9 : (j : Int) ≤ 9600 := by omega
      clear hxy hb hbV
      subst hag
      by_cases hyk : y = k
      · subst hyk
        have HT : Hid (metB (ar.take (j + 1)) y = true) := by show _ = _; rw [HM.out]; simp
        clear HM
        cases b <;>
        · go_wp2_with fail
          go_roundw
          case rel => exact ⟨j + 1, by omega, by go_num, by rw [HT.out], HB2.out _⟩
          case measure => simp [intOf]; omega
      · have HT : Hid (metB (ar.take (j + 1)) k = b) := by show _ = _; rw [HM.out]; simp [hyk]
        have hyf : ((y : Int) == (k : Int)) = false := by simp; omega
        clear HM
        cases b <;>
        · go_wp2_with fail
          go_roundw
          case rel => exact ⟨j + 1, by omega, by go_num, by rw [HT.out], HB2.out _⟩
          case measure => simp [intOf]; omega

set_option maxHeartbeats 1000000 in
theorem deadS_any (p : Int) (a am : Option Addr) (n c nm cm : Nat) (L : List (List Int)) (ys : List Int) (bg : Int) (w : World) (h : Lists w a (3 * n) L) (rm : Row w am nm ys) (hs : sizeN n L ≤ 1048576) (hnm : nm ≤ 1048576) :
    Calls Try.prog 28 #[.agg #[.int .i64 p, .slice a n c], .slice am nm cm, .int .i64 bg] w fun e w' => WEnd (dtOk p n L ys bg) (dtR p n L ys bg) w e w' := by
  have hAl := below_al w (.cells #[.int .i64 p, .slice a n c] 35)
  have HN0 := hide (heap_alloc_new w (.cells #[.int .i64 p, .slice a n c] 35))
  have HX := hide (all_any4 p a am n c nm cm L ys bg _ (h.below hAl) (rm.below hAl) hs hnm)
  have HB0 := hide hAl
  clear h rm hAl
  go_enter Try.func28, Try.ntmps28
  go_wp2_with fail
  generalize w.alloc (.cells #[.int .i64 p, .slice a n c] 35) = v0 at *
  refine HX.out.mono ?_
  rintro e w1 ⟨hb1, hxx⟩
  have HN1 := hide (keep HN0.out hb1)
  have HB1 := hide (HB0.out.trans (hb1.mono HB0.out.size))
  clear hb1 HN0 HB0 HX
  rcases hxx with ⟨hcode, s, ma, mc, aa, ac, hok, rfl, hmr, har⟩ | ⟨hcode, rfl⟩
  rotate_left
  · have HN := hide (dtend_noS (w := w) hcode (HB1.out.trans ((below_al w1 (.cells #[.slice none 0 0, .slice none 0 0] 30)).mono HB1.out.size)))
    clear hcode
    go_wp2_with fail
    go_ret2
    exact HN.out
  have hA3 := below_al w1 (.cells #[.slice ma s.ms.length mc, .slice aa s.ar.length ac] 30)
  have HB3 := hide (HB1.out.trans (hA3.mono HB1.out.size))
  have HN3 := hide (keep HN1.out hA3)
  have HS3 := hide (heap_alloc_new w1 (.cells #[.slice ma s.ms.length mc, .slice aa s.ar.length ac] 30))
  have HD := hide (l4dead_any p a aa n c ac _ (.slice ma s.ms.length mc) s.ar _ (ownsRow_kept har fun g hg => hA3.block g (own_lt har hg).2) hok.n24 hok.len)
  have HY := hide (fun v m B W hx (hW : Below w.heap.size w W) => dtend_yesS (v := v) (m := m) (B := B) (w' := W) (w := w) hcode hok hx hW)
  obtain ⟨hc0, hc1⟩ := cells2 HN3.out
  obtain ⟨hs0, hs1⟩ := cells2 HS3.out
  clear hA3 hmr har HB1 HN1 hcode hok
  go_wp2_with fail
  refine HD.out.mono ?_
  rintro e w2 ⟨v, m, rfl, hown, hb⟩
  have HYY := hide (HY.out _ _ _ _ hown (HB3.out.trans (hb.mono HB3.out.size)))
  clear hown hb
  go_wp2_with fail
  go_ret2
  exact HYY.out
end Go.Proofs.Ytmicboobfnbclaa


/- DeadTrans of the program. -/
namespace Go.Proofs.Ytmicboobfnbclaa
open Go.RowKit
set_option maxRecDepth 10000

theorem Try.info4 : (Try.prog.info? 4).map (fun i => (i.zero, i.size, i.bytes)) = some (some (.bool false), 1, 1) := by kernel_rfl

/-- Block F holds n truths. -/
def BRow (w : World) (F n : Nat) (f : Nat → Bool) : Prop := ∃ C, w.heap[F]? = some (.cells C 4 (0, 0)) ∧ C.size = n ∧ ∀ j, j < n → C[j]? = some (.bool (f j))

theorem BRow.grow {w w' : World} {F n : Nat} {f : Nat → Bool} (h : BRow w F n f) (hb : Below w.heap.size w w') : BRow w' F n f := by
  obtain ⟨C, h1, h2⟩ := h; exact ⟨C, keep h1 hb, h2⟩

theorem BRow.made (w : World) (n : Nat) : BRow (w.alloc (.cells (madeCells #[.bool false] n) 4)) w.heap.size n (fun _ => false) := by
  refine ⟨_, heap_alloc_new _ _, by rw [size_madeCells], fun j hj => ?_⟩
  unfold madeCells
  have e : (j % (#[Value.bool false] : Array Value).size) = 0 := Nat.mod_one j
  rw [Array.getElem?_map, Array.getElem?_range, if_pos hj, Option.map_some, e]
  rfl

theorem BRow.cell {w : World} {F n : Nat} {f : Nat → Bool} (h : BRow w F n f) {j : Nat} (hj : j < n) : w.cell? ⟨F, j, none⟩ = some (.bool (f j)) ∧ w.frozen? ⟨F, j, none⟩ = false := by
  obtain ⟨C, h1, h2, h3⟩ := h
  exact ⟨(cell_of_row w F j C _ _ h1).trans (h3 j hj), frozen_of_row w F j C _ h1⟩

theorem bzero {w : World} {F n : Nat} {ar : List (Nat × Nat × Nat)} (h : BRow w F n (fun _ => false)) : BRow w F n (metB (ar.take 0)) := by
  have e : metB (ar.take 0) = fun _ => false := by funext t; simp [metB]
  rw [e]; exact h

theorem BRow.set {w : World} {F n : Nat} {f f' : Nat → Bool} (h : BRow w F n f) {y : Nat} (hy : y < n) (hf : ∀ t, f' t = (f t || y == t)) : BRow (w.setCell ⟨F, y, none⟩ (.bool true)) F n f' := by
  obtain ⟨C, h1, h2, h3⟩ := h
  refine ⟨C.setIfInBounds y (.bool true), heap_setCell_same _ _ _ _ _ _ h1, by simp [h2], fun j hj => ?_⟩
  rw [Array.getElem?_setIfInBounds, hf j]
  by_cases e : y = j
  · subst e; rw [if_pos rfl, if_pos (by omega)]; simp
  · rw [if_neg e, h3 j hj]; simp [e]


set_option maxHeartbeats 2000000 in
theorem deadI_any (p : Int) (a am : Option Addr) (n c nm cm : Nat) (L : List (List Int)) (ys : List Int) (bg : Int) (w : World) (h : Lists w a (3 * n) L) (rm : Row w am nm ys) (hs : sizeN n L ≤ 1048576) (hnm : nm ≤ 1048576) :
    Calls Try.prog 29 #[.agg #[.int .i64 p, .slice a n c], .slice am nm cm, .int .i64 bg] w fun e w' => OEnd (dtOk p n L ys bg) (dtR p n L ys bg) w e w' := by
  have hAl := below_al w (.cells #[.int .i64 p, .slice a n c] 35)
  have HX := hide (spaceOf_any p a am n c nm cm L ys bg _ (h.below hAl) (rm.below hAl) hs hnm)
  have HB0 := hide hAl
  clear h rm hAl
  go_enter Try.func29, Try.ntmps29
  go_wp2_with fail
  generalize w.alloc (.cells #[.int .i64 p, .slice a n c] 35) = v0 at *
  refine HX.out.mono ?_
  rintro e w1 ⟨hb1, hxx⟩
  have HB1 := hide (HB0.out.trans (hb1.mono HB0.out.size))
  clear hb1 HB0 HX
  have hg0 := heap_alloc_new w1 (.cells spZ 65)
  have hA3 := below_al w1 (.cells spZ 65)
  rcases hxx with ⟨hcode, s, BS, mb, G, av, hok, hst, ⟨aa, ac, rfl⟩, rfl⟩ | ⟨hcode, rfl⟩
  rotate_left
  · have HN := hide (dtend_noI (w := w) hcode (below_setRow (HB1.out.trans (hA3.mono HB1.out.size)) w1.heap.size HB1.out.size spZ))
    obtain ⟨cd, hcd⟩ : ∃ cd, Hid (spCode p n L ys bg = cd) := ⟨_, rfl⟩
    rw [hcd.out] at hcode ⊢
    have hc1 : ¬ ((cd : Nat) : Int) = 1 := by omega
    have hbe : (((cd : Nat) : Int) != 1) = true := by simpa using hc1
    clear hcode hcd hA3
    go_wp2_with ((show wpList _ _ _ (⟨none, .store 65 (.tmp 8) (.tmp 21), _, _, _, _⟩ :: _) _ _); refine wpList_store_row rfl 65 _ _ rfl _ _ rfl rfl 65 _ hg0 Try.size65 rfl spZ_one ?_)
    go_ret2
    exact HN.out
  have hV := below_setRow hA3 w1.heap.size (Nat.le_refl _) (spV p n BS mb G s.ms.length (.slice aa s.ar.length ac))
  have HB3 := hide (HB1.out.trans (hV.mono HB1.out.size))
  have HS3 := hide (hst.grow hV)
  have HV3 := hide (setRow_same hg0 (spV p n BS mb G s.ms.length (.slice aa s.ar.length ac)))
  have hn24 := hok.n24
  have hlen := hok.len
  have HY := hide (fun v m B W hx hB (hW : Below w.heap.size w W) => dtend_yesI (v := v) (m := m) (B := B) (w' := W) (w := w) hcode hok hx hB hW)
  have HOK := hide hok.ok.arc
  clear hA3 hV hst HB1 hcode hok
  obtain ⟨⟨hc0, hc1, hc2, hc3, hc4⟩, _⟩ := cells5 HV3.out
  have hne : ((1 : Int) != 1) = false := by decide
  obtain ⟨i0, hi, hz0, hz1, hz2⟩ := info_split Try.info3
  have hmk := run_make_many (P := Try.prog) 89 4 (.bool false) 1 1 Try.underlying89 Try.info4 .i64 .i64 n (by omega) (by omega)
  go_upto_region 4 with ((show wpList _ _ _ (⟨none, .store 65 (.tmp 8) (.tmp 21), _, _, _, _⟩ :: _) _ _); refine wpList_store_row rfl 65 _ _ rfl _ _ rfl rfl 65 _ hg0 Try.size65 rfl (spV_one _ _ _ _ _ _ _ _ _) ?_)
  clear hg0
  generalize (w1.alloc (.cells spZ 65)).setRow w1.heap.size (spV p n BS mb G s.ms.length (.slice aa s.ar.length ac)) = v3 at *
  have HBR := hide (BRow.made v3 n)
  have hA4 := below_al v3 (.cells (madeCells #[.bool false] n) 4)
  have HB4 := hide hA4
  go_upto_region 5 with fail
  clear hmk hc0 hc1 hc2 hc3 hc4
  generalize v3.alloc (.cells (madeCells #[.bool false] n) 4) = v4 at *
  obtain ⟨⟨hc0, hc1, hc2, hc3, hc4⟩, _⟩ := cells5 (keep HV3.out HB4.out)
  have HAR := hide (ownsRow_kept HS3.out.arcs fun g hg => HB4.out.block g (own_lt HS3.out.arcs hg).2)
  have HL3 := hide (fun g hg => (own_lt HS3.out.arcs (g := g) hg).2)
  obtain ⟨N, hNn⟩ : ∃ N, s.ar.length = N := ⟨_, rfl⟩
  have hNN := hide hNn
  rw [hNn] at HAR hlen hc4 HL3 ⊢
  clear HS3 HV3 hA4 hNn
  go_wp2_with fail
  clear hc0 hc1 hc2 hc3 hc4
  go_loopw [33] (fun i wr => ∃ j : Nat, j ≤ N ∧ i = .int .i64 j ∧ Hid (Below v3.heap.size v3 wr ∧ BRow wr v3.heap.size n (metB (s.ar.take j)))) (fun i _ => N - (intOf i).toNat)
  case atStart => exact ⟨0, Nat.zero_le _, rfl, HB4.out, bzero HBR.out⟩
  case round =>
    obtain ⟨j, hj, rfl, hbr⟩ := hrel
    by_cases hjN : j < N
    rotate_left
    · have hj' : j = N := by omega
      have HBB : Hid (BRow wr v3.heap.size n (metB s.ar)) := by have := hbr.out.2; rwa [hj', ← hNN.out, List.take_length] at this
      have HBW := hide hbr.out.1
      clear hbr hj hjN
      subst hj'
      have hjN : ¬ (j : Int) < (j : Int) := by omega
      obtain ⟨bo, hbo⟩ : ∃ b, wr.heap.size = b := ⟨_, rfl⟩
      go_wp2_with fail
      go_loopw [13, 44] (fun o i wq => ∃ k m : Nat, k ≤ n ∧ i = .int .i64 k ∧ Hid (m ≤ k) ∧ Hid (wq.ownsRow bo 3 1 o m ((numsL (fun t => !metB s.ar t) k).map (Value.int .i64))) ∧ Hid (Below bo wr wq)) (fun _ i _ => n - (intOf i).toNat)
      case atStart => exact ⟨0, 0, Nat.zero_le _, rfl, Nat.le_refl _, World.ownsRow_nil _ _ _ _, Below.refl _ _⟩
      case round =>
        obtain ⟨k, m, hk, rfl, hmk, hown, hbw⟩ := hrel
        have HB1 := hbw
        have HO1 := hown
        by_cases hlt : k < n
        rotate_left
        · have hk' : k = n := by omega
          have hzz := HBW.out.size
          rw [hbo] at hzz
          have HYY := hide (HY.out _ _ _ _ (by rw [hk'] at hown; exact hown.out) (Nat.le_trans HB3.out.size hzz) (HB3.out.trans ((HBW.out.trans (hbw.out.mono hzz)).mono HB3.out.size)))
          clear HY hown HO1
          go_wp2_with fail
          go_ret2
          exact HYY.out
        obtain ⟨hq0, hq1⟩ := (HBB.out.grow (by rw [hbo]; exact hbw.out)).cell hlt
        clear hown hbw
        have hkn : (k : Int) < (n : Int) := by omega
        by_cases hh : metB s.ar k = true
        · have HN := hide (numsL_no (f := fun t => !metB s.ar t) (k := k) (by simp [hh]))
          rw [hh] at hq0
          clear hh
          go_wp2_with fail
          go_roundw
          case rel => exact ⟨k + 1, m, by omega, by go_num, Nat.le_succ_of_le hmk.out, by rw [HN.out]; exact HO1, HB1⟩
          case measure => simp [intOf]; omega
        · have hh' : metB s.ar k = false := by simpa using hh
          have HN := hide (numsL_yes (f := fun t => !metB s.ar t) (k := k) (by simp [hh']))
          rw [hh'] at hq0
          clear hh hh'
          have hA2 := below_al wr (.cells #[.int .i64 (k : Int)] 3)
          have HO2 := hide (HO1.out.alloc (.cells #[.int .i64 (k : Int)] 3))
          have hzb : bo ≤ wr.heap.size := by rw [← hbo]; exact HB1.out.size
          have HB2 := hide (HB1.out.trans (hA2.mono hzb))
          have HCE : Hid (∀ j u, ([.int .i64 (k : Int)] : List Value)[j]? = some u → (wr.alloc (.cells #[.int .i64 (k : Int)] 3)).cell? ((⟨wr.heap.size, 0, none⟩ : Addr).add j) = some u) := one_cell wr _
          have H1c : Hid (∀ u ∈ ([.int .i64 (k : Int)] : List Value), u.oneCell' = true) := fun u hu => by simp at hu; subst hu; rfl
          have HX := hide (show m + 1 ≤ maxLen by have := hmk.out; unfold maxLen; omega)
          have HYb := hide (show (m + 1) * 8 ≤ 140737488355328 by have := hmk.out; omega)
          have HZ := hide (show bo ≤ (wr.alloc (.cells #[.int .i64 (k : Int)] 3)).heap.size from Nat.le_trans hzb hA2.size)
          clear hA2
          go_wp2_with (refine wpList_append_own _ rfl (.tmp 51) (.tmp 53) 25 rfl bo 3 i0 (.int .i64 0) 1 8 Try.underlying25 hi hz0 hz1 hz2 rfl (by decide) u13 m _ rfl HO2.out ⟨wr.heap.size, 0, none⟩ 1 1 [.int .i64 (k : Int)] rfl rfl HCE.out H1c.out HX.out HYb.out HZ.out ?_; intro v' W' r1 r2 r3)
          have HR1 : Hid (W'.ownsRow bo 3 1 v' (m + 1) ((numsL (fun t => !metB s.ar t) (k + 1)).map (Value.int .i64))) := by
            show World.ownsRow _ _ _ _ _ _ _
            rw [HN.out, List.map_append]; exact r1
          have HB3' := hide (own_below HO2.out r2 HB2.out HZ.out (Nat.le_refl _))
          clear r1 r2 r3
          go_wp2_with fail
          go_roundw
          case rel => exact ⟨k + 1, m + 1, by omega, by go_num, Nat.succ_le_succ hmk.out, HR1, HB3'⟩
          case measure => simp [intOf]; omega
    obtain ⟨x, y, z, hxy, hmem⟩ := arc_get (show j < s.ar.length by rw [hNN.out]; exact hjN)
    have hyn := (HOK.out _ hmem).2.1
    have hyn' : y < n := hyn
    have hbV := hbr.out.1
    obtain ⟨g, hag, q0, q1, q2⟩ := arcs_at (ownsRow_kept HAR.out fun g hg => (hbV.block g (HL3.out g hg)).trans (HB4.out.block g (HL3.out g hg)).symm) hjN hxy
    have HM := hide (fun t => metB_take hxy t)
    have hB2 := fun C => below_al wr (.cells C 91)
    have HRS := hide (fun C => (hbr.out.2.grow (hB2 C)).set hyn' HM.out)
    have HRC := hide (fun C => (hbr.out.2.grow (hB2 C)).cell hyn')
    have HBW := hide (fun C v => (hbV.trans ((hB2 C).mono hbV.size)).setCell (p := ⟨v3.heap.size, y, none⟩) (Nat.le_refl _) v)
    obtain ⟨hr0, hr1⟩ := HRC.out #[.int .i64 (x : Int), .int .i64 (y : Int), .int .i64 (z : Int)]
    have hgj : (j : Int) < (N : Int) := by omega
    have hj9 : (j : Int) ≤ 9600 := by omega
    have hyn2 : (y : Int) < (n : Int) := by omega
    have hy0 : (0 : Int) ≤ (y : Int) := by omega
    clear hxy hbV hyn hyn' hmem hB2 HM HRC hbr
    subst hag
    go_wp2_with fail
    go_roundw
    case rel => exact ⟨j + 1, by omega, by go_num, HBW.out _ _, HRS.out _⟩
    case measure => simp [intOf]; omega
end Go.Proofs.Ytmicboobfnbclaa


/- Dead marks: the program's dead, and the search for the first. -/
namespace Go.Proofs.Ytmicboobfnbclaa
open Go.RowKit
set_option maxRecDepth 10000

/-- Whether one of the first n is as asked. -/
def anyE (Pd : Nat → Bool) (n : Nat) : Bool := (List.range n).any Pd

theorem anyE_yes {Pd : Nat → Bool} {n k : Nat} (hk : k < n) (h : Pd k = true) : anyE Pd n = true := by
  unfold anyE
  rw [List.any_eq_true]
  exact ⟨k, by simpa using hk, h⟩

theorem anyE_step {Pd : Nat → Bool} {k : Nat} (h : anyE Pd k = false) (he : Pd k = false) : anyE Pd (k + 1) = false := by
  unfold anyE at *
  rw [List.range_succ, List.any_append, h]
  simp [he]

theorem anyE_congr {f g : Nat → Bool} {n : Nat} (h : ∀ i, i < n → f i = g i) : anyE f n = anyE g n := by
  unfold anyE
  rw [Bool.eq_iff_iff, List.any_eq_true, List.any_eq_true]
  constructor
  · rintro ⟨i, hi, hh⟩; exact ⟨i, hi, by rw [← h i (by simpa using hi)]; exact hh⟩
  · rintro ⟨i, hi, hh⟩; exact ⟨i, hi, by rw [h i (by simpa using hi)]; exact hh⟩

theorem numsL_empty (f : Nat → Bool) (n : Nat) : ((numsL f n).length = 0) ↔ anyE f n = false := by
  unfold numsL anyE
  rw [List.length_map, List.length_eq_zero_iff, List.filter_eq_nil_iff, Bool.eq_false_iff, Ne, List.any_eq_true]
  constructor
  · rintro h ⟨x, h1, h2⟩; exact h x h1 h2
  · intro h x h1 h2; exact h ⟨x, h1, h2⟩

/-- Whether nothing can fire. -/
def deadM (n : Nat) (L : List (List Int)) (m : List Int) : Bool := !anyE (canT L m) n

def IdxE (Pd : Nat → Bool) (n : Nat) (w : World) (e : Ending) (w' : World) : Prop := ∃ z : Int, e = .returned (.int .i64 z) ∧ Hid (decide (0 ≤ z) = anyE Pd n) ∧ Below w.heap.size w w'

set_option maxHeartbeats 1000000 in
theorem indexE_any (s : Nat) (Pd : Nat → Bool) (B n : Nat) (L : List (List Int)) (w : World) (h : PartS w B (3 * n) (3 * n) L) (hn : n ≤ 24)
    (hc : ∀ W k, k < n → Calls Try.prog 79 #[.int .u16 (s : Int), .agg #[.int .u16 (maskL (L.getD (3 * k) []) : Int), .int .u16 (maskL (L.getD (3 * k + 1) []) : Int), .int .u16 (maskL (L.getD (3 * k + 2) []) : Int)]] W fun e W' => e = .returned (.bool (Pd k)) ∧ Below W.heap.size W W') :
    Calls Try.prog 87 #[.slice (some ⟨B, 0, none⟩) n n, .func (.func 79) #[.int .u16 (s : Int)] #[]] w fun e w' => IdxE Pd n w e w' := by
  have HP := hide h
  have HC := hide hc
  clear h hc
  go_enter Try.func87, Try.ntmps87
  go_wp2_with fail
  go_loopw [8] (fun i wr => ∃ k : Nat, k ≤ n ∧ i = .int .i64 k ∧ Hid (anyE Pd k = false) ∧ Hid (Below w.heap.size w wr)) (fun i _ => n - (intOf i).toNat)
  case atStart => exact ⟨0, Nat.zero_le _, rfl, rfl, Below.refl _ _⟩
  case round =>
    obtain ⟨k, hk, rfl, hu, hbw⟩ := hrel
    by_cases hlt : k < n
    rotate_left
    · have hk' : k = n := by omega
      subst hk'
      have HE : Hid (IdxE Pd k w (.returned (.int .i64 (-1))) wr) := ⟨-1, rfl, by rw [hu.out]; rfl, hbw.out⟩
      go_wp2_with fail
      go_ret
      exact HE.out
    obtain ⟨hc0, hc1, hc2⟩ := (HP.out.grow hbw.out).at2 hlt
    have HH := hide (HC.out wr k hlt)
    cases hh : Pd k
    · have HU := hide (anyE_step hu.out hh)
      rw [hh] at HH
      clear hh hu
      generalize maskL (L.getD (3 * k) []) = s0 at *
      generalize maskL (L.getD (3 * k + 1) []) = s1 at *
      generalize maskL (L.getD (3 * k + 2) []) = s2 at *
      go_wp2_with fail
      refine HH.out.mono ?_
      rintro e w1 ⟨rfl, hb⟩
      have HB := hide (hbw.out.trans (hb.mono hbw.out.size))
      clear hb HH hc0 hc1 hc2
      go_wp2_with fail
      go_roundw
      case rel => exact ⟨k + 1, by omega, by go_num, HU, HB⟩
      case measure => simp [intOf]; omega
    · have HY := hide (anyE_yes hlt hh)
      rw [hh] at HH
      clear hh hu
      generalize maskL (L.getD (3 * k) []) = s0 at *
      generalize maskL (L.getD (3 * k + 1) []) = s1 at *
      generalize maskL (L.getD (3 * k + 2) []) = s2 at *
      go_wp2_with fail
      refine HH.out.mono ?_
      rintro e w1 ⟨rfl, hb⟩
      have HE : Hid (IdxE Pd n w (.returned (.int .i64 (k : Int))) w1) := ⟨k, rfl, by rw [HY.out]; simp [Hid], hbw.out.trans (hb.mono hbw.out.size)⟩
      clear hb HH hc0 hc1 hc2
      go_wp2_with fail
      go_ret
      exact HE.out

set_option maxHeartbeats 400000 in
theorem containsE_any (s : Nat) (Pd : Nat → Bool) (B n : Nat) (L : List (List Int)) (w : World) (h : PartS w B (3 * n) (3 * n) L) (hn : n ≤ 24)
    (hc : ∀ W k, k < n → Calls Try.prog 79 #[.int .u16 (s : Int), .agg #[.int .u16 (maskL (L.getD (3 * k) []) : Int), .int .u16 (maskL (L.getD (3 * k + 1) []) : Int), .int .u16 (maskL (L.getD (3 * k + 2) []) : Int)]] W fun e W' => e = .returned (.bool (Pd k)) ∧ Below W.heap.size W W') :
    Calls Try.prog 77 #[.slice (some ⟨B, 0, none⟩) n n, .func (.func 79) #[.int .u16 (s : Int)] #[]] w fun e w' => e = .returned (.bool (anyE Pd n)) ∧ Below w.heap.size w w' := by
  have HI := hide (indexE_any s Pd B n L w h hn hc)
  clear h hc
  go_enter Try.func77, Try.ntmps77
  go_wp2_with fail
  refine HI.out.mono ?_
  rintro e w1 ⟨z, rfl, hz, hb⟩
  have HB := hide hb
  clear hb HI
  go_wp2_with fail
  go_ret
  exact ⟨ret_bool hz.out, HB.out⟩

set_option maxHeartbeats 1000000 in
theorem dead_any {p : Int} {n l : Nat} {L : List (List Int)} {ys : List Int} {bg : Int} {s : Sea} (hok : SpOk p n l L ys bg s) (BS mb G N : Nat) (av : Value) {m : List Int} (hm : goodB p m = true) (w : World) (h : PartS w BS (3 * n) (3 * n) L) :
    Calls Try.prog 55 #[.agg (spV p n BS mb G N av), .agg (packOf m l)] w fun e w' => e = .returned (.bool (deadM n L m)) ∧ Below w.heap.size w w' := by
  have hAl := (below_al w (.cells (spV p n BS mb G N av) 65)).trans ((below_al (w.alloc (.cells (spV p n BS mb G N av) 65)) (.cells (packOf m l) 80)).mono (by simp))
  have HN0 := hide (keep (heap_alloc_new w (.cells (spV p n BS mb G N av) 65)) (below_al (w.alloc (.cells (spV p n BS mb G N av) 65)) (.cells (packOf m l) 80)))
  have HS0 := hide (heap_alloc2_new w (.cells (spV p n BS mb G N av) 65) (.cells (packOf m l) 80))
  have HP := hide (h.grow hAl)
  have HB0 := hide hAl
  have HF := hide (fun i => (goodB_parts hm).2.2 i)
  have hn24 := hok.n24
  obtain ⟨M, hM⟩ : ∃ M, Hid (maskL (posL (fOf m l) 16) = M) := ⟨_, rfl⟩
  have HD : Hid (deadM n L m = !anyE (fun t => subB (maskL (L.getD (3 * t) [])) M) n) := by
    show _ = _
    unfold deadM
    rw [anyE_congr fun i hi => ?_]
    rw [← hM.out]
    exact ((step_links hok.net hm hok.hl hi).1).symm
  have HT := hide (fun k (hk : k < n) => mask16' (tri_rise (triOkOf hok.net hk)).1 hok.hp)
  clear h hAl hok hm
  go_enter Try.func55, Try.ntmps55
  go_upto_region 1 with fail
  generalize (w.alloc (.cells (spV p n BS mb G N av) 65)).alloc (.cells (packOf m l) 80) = v at *
  obtain ⟨⟨hc0, hc1, hc2, hc3, hc4⟩, _⟩ := cells5 HN0.out
  have HB1 := hide HB0.out.drew
  have HP1 := hide (HP.out.grow (Below.refl _ v).drew)
  have hc1' : v.drew.cell? ⟨w.heap.size, 1, none⟩ = some (.slice (some ⟨BS, 0, none⟩) n n) := hc1
  have hs' : v.drew.heap[w.heap.size + 1]? = some (.cells (packOf m l) 80 (0, 0)) := keep HS0.out (Below.refl _ v).drew
  have HNd := hide (keep HN0.out (Below.refl _ v).drew)
  refine wp_region_held_drew (S := fun W => W.cell? ⟨w.heap.size, 1, none⟩ = some (.slice (some ⟨BS, 0, none⟩) n n) ∧ W.heap[w.heap.size + 1]? = some (.cells (packOf m l) 80 (0, 0))) (by kernel_rfl) ⟨hc1', hs'⟩ (fun hHeld => ?_)
  clear hc0 hc1 hc2 hc3 hc4 HN0 HP HB0 hc1'
  generalize v.drew = v1 at *
  refine take_yes (i := 0) (some 5) (.pointer (some ⟨w.heap.size, 0, none⟩)) rfl rfl (by kernel_rfl) (by kernel_rfl) (by kernel_rfl) (fun _ _ _ h => h) (by rfl) ?_ (by assumption) ?_
  · intro W' hSw
    obtain ⟨hz0, hz1⟩ := hSw
    go_simp
  simp only [Act.put, List.setIfInBounds_toArray, List.set_cons_zero, List.set_cons_succ]
  refine take_yes (i := 1) (some 6) (.pointer (some ⟨w.heap.size, 1, none⟩)) rfl rfl (by kernel_rfl) (by kernel_rfl) (by kernel_rfl) (fun _ _ _ h => h) (by rfl) ?_ (by assumption) ?_
  · intro W' hSw
    obtain ⟨hz0, hz1⟩ := hSw
    go_simp
  simp only [Act.put, List.setIfInBounds_toArray, List.set_cons_zero, List.set_cons_succ]
  refine take_yes (i := 2) (some 7) (.slice (some ⟨BS, 0, none⟩) n n) rfl rfl (by kernel_rfl) (by kernel_rfl) (by kernel_rfl) (fun _ _ _ h => h) (by rfl) ?_ (by assumption) ?_
  · intro W' hSw
    obtain ⟨hz0, hz1⟩ := hSw
    go_simp
  simp only [Act.put, List.setIfInBounds_toArray, List.set_cons_zero, List.set_cons_succ]
  refine take_yes (i := 3) (some 8) (.agg (packOf m l)) rfl rfl (by kernel_rfl) (by kernel_rfl) (by kernel_rfl) (fun _ _ _ h => h) (by rfl) ?_ (by assumption) ?_
  · intro W' hSw
    obtain ⟨hz0, hz1⟩ := hSw
    exact exec_load_row 80 _ rfl _ rfl 80 _ _ _ hz1 Try.underlying80 rfl (by rw [packOf_size]; exact Try.size80)
  simp only [Act.put, List.setIfInBounds_toArray, List.set_cons_zero, List.set_cons_succ]
  refine call_next (i := 4) (some 9) rfl rfl (by kernel_rfl) (by rfl) 78 _ _ _ rfl Try.func78 (by decide) rfl #[.agg (packOf m l)] (mapw1 _ _ _ rfl) _ (markedI_any (fOf m l) v1 (fun i => by have := HF.out i; unfold fOf; split <;> omega)) ?_
  rintro e w1 ⟨rfl, rfl⟩
  have hA := below_al v1 (.cells (tokF (fOf m l)) 80)
  have HB2 := hide (HB1.out.trans (hA.mono HB1.out.size))
  have HP2 := hide (HP1.out.grow hA)
  have hs2 := keep hs' hA
  have HN2 := hide (keep HNd.out hA)
  rw [hM.out]
  refine ⟨_, rfl, ⟨(cells5 HN2.out).1.2.1, hs2⟩, fun _ => ?_⟩
  simp only [Act.put, List.setIfInBounds_toArray, List.set_cons_zero, List.set_cons_succ]
  clear HB1 HP1 hs' HNd hA hHeld
  generalize v1.alloc (.cells (tokF (fOf m l)) 80) = v2 at *
  refine take_yes (i := 5) (some 10) (.func (.func 79) #[.int .u16 (M : Int)] #[]) rfl rfl (by kernel_rfl) (by kernel_rfl) (by kernel_rfl) (fun _ _ _ h => h) (by rfl) ?_ (by assumption) ?_
  · intro W' hSw
    obtain ⟨hz0, hz1⟩ := hSw
    go_simp
  simp only [Act.put, List.setIfInBounds_toArray, List.set_cons_zero, List.set_cons_succ]
  refine call_next (i := 6) (some 11) rfl rfl (by kernel_rfl) (by rfl) 77 _ _ _ rfl Try.func77 (by decide) rfl #[.slice (some ⟨BS, 0, none⟩) n n, .func (.func 79) #[.int .u16 (M : Int)] #[]] (mapw2 _ _ _ _ _ rfl rfl) _ (containsE_any M (fun t => subB (maskL (L.getD (3 * t) [])) M) BS n L v2 HP2.out hn24 (fun W k hk => (enables_any M _ _ _ W (HT.out k hk)).mono (by rintro e w' ⟨rfl, rfl⟩; exact ⟨rfl, below_al _ _⟩))) ?_
  rintro e w3 ⟨rfl, hb⟩
  have HB3 := hide (HB2.out.trans (hb.mono HB2.out.size))
  refine ⟨_, rfl, ⟨(cells5 (keep HN2.out hb)).1.2.1, keep hs2 hb⟩, fun _ => ?_⟩
  simp only [Act.put, List.setIfInBounds_toArray, List.set_cons_zero, List.set_cons_succ]
  clear HB2 HP2 hs2 HN2 hb HT HF
  generalize anyE (fun t => subB (maskL (L.getD (3 * t) [])) M) n = x at *
  refine take_yes (i := 7) (some 12) (.bool (!x)) rfl rfl (by kernel_rfl) (by kernel_rfl) (by kernel_rfl) (fun _ _ _ h => h) (by rfl) ?_ (by assumption) ?_
  · intro W' hSw
    obtain ⟨hz0, hz1⟩ := hSw
    go_simp
  simp only [Act.put, List.setIfInBounds_toArray, List.set_cons_zero, List.set_cons_succ]
  refine take_yes (i := 8) (some 4) (.bool (!x)) rfl rfl (by kernel_rfl) (by kernel_rfl) (by kernel_rfl) (fun _ _ _ h => h) (by rfl) ?_ (by assumption) ?_
  · intro W' hSw
    obtain ⟨hz0, hz1⟩ := hSw
    go_simp
  simp only [Act.put, List.setIfInBounds_toArray, List.set_cons_zero, List.set_cons_succ]
  refine wpAnyH_done (by kernel_rfl) ?_ _
  go_wp2_with fail
  go_ret
  exact ⟨ret_bool HD.out.symm, HB3.out⟩

/-- The first mark that is as asked is the k-th. -/
def FdAt (f : List Int → Bool) (ms : List (List Int)) (k : Nat) : Prop := k < ms.length ∧ (∀ i, i < k → f (ms.getD i []) = false) ∧ f (ms.getD k []) = true

def IdxT (f : List Int → Bool) (ms : List (List Int)) (w : World) (e : Ending) (w' : World) : Prop :=
  ∃ z : Int, e = .returned (.int .i64 z) ∧ Hid ((∃ k : Nat, z = (k : Int) ∧ FdAt f ms k) ∨ (z = -1 ∧ ∀ i, i < ms.length → f (ms.getD i []) = false)) ∧ Below w.heap.size w w'

set_option maxHeartbeats 1000000 in
theorem indexT_any {p : Int} {n l : Nat} {L : List (List Int)} {ys : List Int} {bg : Int} {s : Sea} (hok : SpOk p n l L ys bg s) (BS mb G : Nat) (av : Value) (w : World) (h : PartS w BS (3 * n) (3 * n) L) (ht : TokAll w G l s.ms) :
    Calls Try.prog 54 #[.slice (some ⟨G, 0, none⟩) s.ms.length s.ms.length, .func (.func 55) #[.agg (spV p n BS mb G s.ms.length av)] #[]] w fun e w' => IdxT (deadM n L) s.ms w e w' := by
  have HP := hide h
  have HT := hide ht
  have HOK := hide hok
  have hm4 := hok.m4
  clear h ht hok
  obtain ⟨N, hN⟩ : ∃ N, Hid (s.ms.length = N) := ⟨_, rfl⟩
  obtain ⟨V, hV⟩ : ∃ V, Hid (spV p n BS mb G s.ms.length av = V) := ⟨_, rfl⟩
  have HD := hide (fun W (hW : Below w.heap.size w W) k (hk : k < s.ms.length) => dead_any HOK.out BS mb G s.ms.length av (HOK.out.ok.goodAt hk) W (HP.out.grow hW))
  rw [hV.out] at HD ⊢
  rw [hN.out] at HD hm4 ⊢
  go_enter Try.func54, Try.ntmps54
  go_wp2_with fail
  go_loopw [8] (fun i wr => ∃ k : Nat, k ≤ N ∧ i = .int .i64 k ∧ Hid (∀ i, i < k → deadM n L (s.ms.getD i []) = false) ∧ Hid (Below w.heap.size w wr)) (fun i _ => N - (intOf i).toNat)
  case atStart => exact ⟨0, Nat.zero_le _, rfl, fun i hi => absurd hi (by omega), Below.refl _ _⟩
  case round =>
    obtain ⟨k, hk, rfl, hu, hbw⟩ := hrel
    by_cases hlt : k < N
    rotate_left
    · have hk' : k = N := by omega
      have HE : Hid (IdxT (deadM n L) s.ms w (.returned (.int .i64 (-1))) wr) := ⟨-1, rfl, .inr ⟨rfl, fun i hi => hu.out i (by rw [hk', ← hN.out]; exact hi)⟩, hbw.out⟩
      go_wp2_with fail
      go_ret
      exact HE.out
    have hrg := (HT.out.grow hbw.out).cells k (by rw [hN.out]; exact hlt)
    have HH := hide (HD.out wr hbw.out k hlt)
    have hkN : (k : Int) < (N : Int) := by omega
    have hk0 : (0 : Int) ≤ (k : Int) := by omega
    obtain ⟨m, hm⟩ : ∃ m, Hid (s.ms.getD k [] = m) := ⟨_, rfl⟩
    obtain ⟨d, hd⟩ : ∃ d, Hid (deadM n L m = d) := ⟨_, rfl⟩
    rw [hm.out] at hrg HH
    rw [hd.out] at HH
    cases d
    · have HU : Hid (∀ i, i < k + 1 → deadM n L (s.ms.getD i []) = false) := fun i hi => by
        by_cases e : i = k
        · rw [e, hm.out]; exact hd.out
        · exact hu.out i (by omega)
      clear hu hm hd
      go_wp2_with ((show wpList _ _ _ (⟨some 15, .load 80 (.tmp 14), _, _, _, _⟩ :: _) _ _); refine wpList_load_tokQ rfl (.tmp 14) rfl G (k * 16) rfl l m hrg ?_)
      refine HH.out.mono ?_
      rintro e w1 ⟨rfl, hb⟩
      have HB := hide (hbw.out.trans (hb.mono hbw.out.size))
      clear hb HH hrg
      go_wp2_with fail
      go_roundw
      case rel => exact ⟨k + 1, by omega, by go_num, HU, HB⟩
      case measure => simp [intOf]; omega
    · have HY : Hid (FdAt (deadM n L) s.ms k) := ⟨by rw [hN.out]; exact hlt, hu.out, by rw [hm.out]; exact hd.out⟩
      clear hu hm hd
      go_wp2_with ((show wpList _ _ _ (⟨some 15, .load 80 (.tmp 14), _, _, _, _⟩ :: _) _ _); refine wpList_load_tokQ rfl (.tmp 14) rfl G (k * 16) rfl l m hrg ?_)
      refine HH.out.mono ?_
      rintro e w1 ⟨rfl, hb⟩
      have HE : Hid (IdxT (deadM n L) s.ms w (.returned (.int .i64 (k : Int))) w1) := ⟨k, rfl, .inl ⟨k, rfl, HY.out⟩, hbw.out.trans (hb.mono hbw.out.size)⟩
      clear hb HH hrg
      go_wp2_with fail
      go_ret
      exact HE.out
end Go.Proofs.Ytmicboobfnbclaa


/- FirstDead of both. -/
namespace Go.Proofs.Ytmicboobfnbclaa
open Go.RowKit
set_option maxRecDepth 10000

def fdOk (p : Int) (n : Nat) (L : List (List Int)) (ys : List Int) (bg : Int) : Bool := decide (spCode p n L ys bg = 1) && (spSea p n L ys bg).ms.any (deadM n L)
def fdR (p : Int) (n : Nat) (L : List (List Int)) (ys : List Int) (bg : Int) : List Int := if fdOk p n L ys bg then ((spSea p n L ys bg).ms.find? (deadM n L)).getD [] else []

theorem fd_at {f : List Int → Bool} {ms : List (List Int)} {k : Nat} (h : FdAt f ms k) : ms.any f = true ∧ ms.find? f = some (ms.getD k []) := by
  obtain ⟨hk, h1, h2⟩ := h
  have e : ∀ i (hi : i < ms.length), ms.getD i [] = ms[i] := fun i hi => by rw [List.getD_eq_getElem?_getD, List.getElem?_eq_getElem hi]; rfl
  refine ⟨List.any_eq_true.2 ⟨_, List.getElem_mem hk, by rw [← e k hk]; exact h2⟩, ?_⟩
  rw [List.find?_eq_some_iff_getElem]
  refine ⟨h2, k, hk, (e k hk).symm, fun j hj => ?_⟩
  have := h1 j hj
  rw [e j (by omega)] at this
  simp [this]

theorem fd_none {f : List Int → Bool} {ms : List (List Int)} (h : ∀ i, i < ms.length → f (ms.getD i []) = false) : ms.any f = false := by
  rw [Bool.eq_false_iff, Ne, List.any_eq_true]
  rintro ⟨x, hx, hf⟩
  obtain ⟨i, hi, rfl⟩ := List.getElem_of_mem hx
  have := h i hi
  rw [List.getD_eq_getElem?_getD, List.getElem?_eq_getElem hi] at this
  simp at this; rw [this] at hf; cases hf

theorem fdOk_code {p : Int} {n : Nat} {L : List (List Int)} {ys : List Int} {bg : Int} (h : spCode p n L ys bg ≠ 1) : fdOk p n L ys bg = false := by unfold fdOk; simp [h]
theorem fdOk_none {p : Int} {n l : Nat} {L : List (List Int)} {ys : List Int} {bg : Int} {s : Sea} (hs : SpOk p n l L ys bg s) (h : ∀ i, i < s.ms.length → deadM n L (s.ms.getD i []) = false) : fdOk p n L ys bg = false := by unfold fdOk; rw [hs.is, fd_none h, Bool.and_false]
theorem fdOk_at {p : Int} {n l : Nat} {L : List (List Int)} {ys : List Int} {bg : Int} {s : Sea} (hc : spCode p n L ys bg = 1) (hs : SpOk p n l L ys bg s) {k : Nat} (h : FdAt (deadM n L) s.ms k) : fdOk p n L ys bg = true ∧ fdR p n L ys bg = s.ms.getD k [] := by
  obtain ⟨h1, h2⟩ := fd_at h
  have e : fdOk p n L ys bg = true := by unfold fdOk; rw [hs.is, h1, hc]; rfl
  refine ⟨e, ?_⟩
  unfold fdR; rw [e, if_pos rfl, hs.is, h2]; rfl

theorem fdend_noS {p : Int} {n : Nat} {L : List (List Int)} {ys : List Int} {bg : Int} {w w' : World} (h : fdOk p n L ys bg = false) (hb : Below w.heap.size w w') : WEnd (fdOk p n L ys bg) (fdR p n L ys bg) w (.returned (.tuple #[.slice none 0 0, .bool false])) w' := by
  refine ⟨none, 0, 0, by rw [h], ⟨?_, .inl rfl⟩, hb⟩
  unfold fdR; rw [h]; rfl

theorem fdend_noI {p : Int} {n : Nat} {L : List (List Int)} {ys : List Int} {bg : Int} {w w' : World} (h : fdOk p n L ys bg = false) (hb : Below w.heap.size w w') : OEnd (fdOk p n L ys bg) (fdR p n L ys bg) w (.returned (.tuple #[.slice none 0 0, .bool false])) w' := by
  refine ⟨none, w.heap.size, 0, 0, by rw [h], ⟨?_, .inl rfl⟩, Nat.le_refl _, hb⟩
  unfold fdR; rw [h]; rfl

theorem fdend_yesS {p : Int} {n l : Nat} {L : List (List Int)} {ys : List Int} {bg : Int} {s : Sea} {w w' : World} (hc : spCode p n L ys bg = 1) (hs : SpOk p n l L ys bg s) {k : Nat} (h : FdAt (deadM n L) s.ms k) {g c : Nat} (ho : OutR w' g l (s.ms.getD k [])) (hb : Below w.heap.size w w') : WEnd (fdOk p n L ys bg) (fdR p n L ys bg) w (.returned (.tuple #[.slice (some ⟨g, 0, none⟩) l c, .bool true])) w' := by
  obtain ⟨h1, h2⟩ := fdOk_at hc hs h
  exact ⟨_, l, c, by rw [h1], by rw [h2]; exact ho.row, hb⟩

theorem fdend_yesI {p : Int} {n l : Nat} {L : List (List Int)} {ys : List Int} {bg : Int} {s : Sea} {w w' : World} (hc : spCode p n L ys bg = 1) (hs : SpOk p n l L ys bg s) {k : Nat} (h : FdAt (deadM n L) s.ms k) {g : Nat} (ho : w'.heap[g]? = some (.cells (cellsOf (s.ms.getD k [])) 3 (0, 0))) (hg : w.heap.size ≤ g) (hb : Below w.heap.size w w') : OEnd (fdOk p n L ys bg) (fdR p n L ys bg) w (.returned (.tuple #[.slice (some ⟨g, 0, none⟩) l l, .bool true])) w' := by
  obtain ⟨h1, h2⟩ := fdOk_at hc hs h
  have hl := (hs.goodAt h.1).1
  refine ⟨_, g, l, l, by rw [h1], ?_, hg, hb⟩
  rw [h2]
  generalize s.ms.getD k [] = m at *
  refine ⟨hl, .inr ⟨rfl, _, ho, by simp [cellsOf, hl], fun i hi => ?_⟩⟩
  simp [cellsOf, List.getElem?_eq_getElem (show i < m.length by omega)]

theorem listF_fOf {m : List Int} {l : Nat} (h : m.length = l) : listF (fOf m l) l = m := by
  apply List.ext_getElem
  · rw [listF_len]; exact h.symm
  · intro i h1 h2
    have hi : i < l := by rw [listF_len] at h1; exact h1
    simp [listF, fOf, hi, List.getElem?_eq_getElem h2]

theorem dead_len {n : Nat} {L : List (List Int)} {m : List Int} {k : Nat} (h : (numsL (fun i => canB (L.getD (3 * i) []) m) n).length = k) : ((k : Int) == 0) = deadM n L m := by
  have h2 := numsL_empty (fun i => canB (L.getD (3 * i) []) m) n
  unfold deadM
  have e : anyE (canT L m) n = anyE (fun i => canB (L.getD (3 * i) []) m) n := rfl
  rw [e]
  by_cases hk : k = 0
  · rw [h2.1 (by omega), hk]; rfl
  · have : anyE (fun i => canB (L.getD (3 * i) []) m) n = true := by
      cases hx : anyE (fun i => canB (L.getD (3 * i) []) m) n
      · exact absurd (h2.2 hx) (by omega)
      · rfl
    rw [this]; simp; omega

theorem exec_load_tokQ {o : Oper} {a : Act} {w : World} (x : Operand) (ho : o.op = .load 80 x) (g k l : Nat) (hx : a.eval x = .pointer (some ⟨g, k, none⟩)) (m : List Int) (hc : w.rangeAt g k (encQ l m)) : (execOp a.eval o).run Try.prog w = .ok (.value (.agg (packOf m l))) w := by
  have h := run_loadVar_mid (P := Try.prog) w g k 80 (encQ l m) _ hc Try.underlying80 rfl (by rw [encQ_len]; exact Try.size80)
  unfold execOp
  simp only [ho, hx, Instr.loadAt, Instr.sureAddr, Sem.run_bind, Sem.run_pure, Result.andThen_ok, h]
  simp [encQ]


set_option maxHeartbeats 1000000 in
theorem firstS_any (p : Int) (a am : Option Addr) (n c nm cm : Nat) (L : List (List Int)) (ys : List Int) (bg : Int) (w : World) (h : Lists w a (3 * n) L) (rm : Row w am nm ys) (hs : sizeN n L ≤ 1048576) (hnm : nm ≤ 1048576) :
    Calls Try.prog 26 #[.agg #[.int .i64 p, .slice a n c], .slice am nm cm, .int .i64 bg] w fun e w' => WEnd (fdOk p n L ys bg) (fdR p n L ys bg) w e w' := by
  have hAl := below_al w (.cells #[.int .i64 p, .slice a n c] 35)
  have HN0 := hide (heap_alloc_new w (.cells #[.int .i64 p, .slice a n c] 35))
  have HX := hide (all_any4 p a am n c nm cm L ys bg _ (h.below hAl) (rm.below hAl) hs hnm)
  have HL0 := hide (h.below hAl)
  have HB0 := hide hAl
  clear h rm hAl
  go_enter Try.func26, Try.ntmps26
  go_wp2_with fail
  generalize w.alloc (.cells #[.int .i64 p, .slice a n c] 35) = v0 at *
  refine HX.out.mono ?_
  rintro e w1 ⟨hb1, hxx⟩
  have HN1 := hide (keep HN0.out hb1)
  have HL1 := hide (HL0.out.below hb1)
  have HB1 := hide (HB0.out.trans (hb1.mono HB0.out.size))
  clear hb1 HN0 HB0 HX HL0
  rcases hxx with ⟨hcode, s, ma, mc, aa, ac, hok, rfl, hmr, har⟩ | ⟨hcode, rfl⟩
  rotate_left
  · have HN := hide (fdend_noS (w := w) (fdOk_code hcode) (HB1.out.trans ((below_al w1 (.cells #[.slice none 0 0, .slice none 0 0] 30)).mono HB1.out.size)))
    clear hcode
    go_wp2_with fail
    go_ret2
    exact HN.out
  have hA3 := below_al w1 (.cells #[.slice ma s.ms.length mc, .slice aa s.ar.length ac] 30)
  have HB3 := hide (HB1.out.trans (hA3.mono HB1.out.size))
  have HN3 := hide (keep HN1.out hA3)
  have HS3 := hide (heap_alloc_new w1 (.cells #[.slice ma s.ms.length mc, .slice aa s.ar.length ac] 30))
  have HM3 := hide (hmr.go hA3)
  have HL3 := hide (HL1.out.below hA3)
  have HNO := hide (fun W hx (hW : Below w.heap.size w W) => fdend_noS (w' := W) (w := w) (fdOk_none hok hx) hW)
  have HYE := hide (fun W k g cc hx ho (hW : Below w.heap.size w W) => fdend_yesS (w' := W) (w := w) (k := k) (g := g) (c := cc) hcode hok hx ho hW)
  have hl16 := hok.l16
  have hm4 := hok.m4
  have hn24 := hok.n24
  have HLE := hide (fun k (hk : k < s.ms.length) => (hok.goodAt hk).1)
  have hin : ∀ k, k < n → ∀ x ∈ L.getD (3 * k) [], 0 ≤ x ∧ x < (nm : Int) := by
    intro t ht x hx
    have htri := tri_rise (triOkOf hok.net ht)
    have := riseB_mem htri.1 x hx
    have := hok.hl
    omega
  have HIN := hide hin
  obtain ⟨hs0, hs1⟩ := cells2 HS3.out
  clear hA3 hmr har HB1 HN1 HL1 hcode hok hin HS3
  go_upto_region 4 with fail
  generalize w1.alloc (.cells #[.slice ma s.ms.length mc, .slice aa s.ar.length ac] 30) = v3 at *
  obtain ⟨N, hN⟩ : ∃ N, Hid (s.ms.length = N) := ⟨_, rfl⟩
  rw [hN.out] at hs0 hm4 HLE ⊢
  go_wp2_with fail
  clear hs0 hs1
  go_loopw [24] (fun i wr => ∃ k : Nat, k ≤ N ∧ i = .int .i64 k ∧ Hid (∀ i, i < k → deadM n L (s.ms.getD i []) = false) ∧ Hid (Below v3.heap.size v3 wr)) (fun i _ => N - (intOf i).toNat)
  case atStart => exact ⟨0, Nat.zero_le _, rfl, fun i hi => absurd hi (by omega), Below.refl _ _⟩
  case round =>
    obtain ⟨k, hk, rfl, hu, hbw⟩ := hrel
    have hBw := HB3.out.trans (hbw.out.mono HB3.out.size)
    by_cases hlt : k < N
    rotate_left
    · have hk' : k = N := by omega
      have HE := hide (HNO.out wr (fun i hi => hu.out i (by rw [hk', ← hN.out]; exact hi)) hBw)
      go_wp2_with fail
      go_ret2
      exact HE.out
    obtain ⟨b, g', c', hma, hbl, hcell, hor⟩ := (HM3.out.go hbw.out).at_ (show k < s.ms.length by rw [hN.out]; exact hlt)
    obtain ⟨hd0, hd1⟩ := cells2 (keep HN3.out hbw.out)
    subst hma
    obtain ⟨m, hm⟩ : ∃ m, Hid (s.ms.getD k [] = m) := ⟨_, rfl⟩
    have hml := HLE.out k hlt
    rw [hm.out] at hor hml
    have HEN := hide (enabledS_any p a (some ⟨g', 0, none⟩) n c nm c' L m wr (HL3.out.below hbw.out) hor.row hs hn24 HIN.out)
    have HBw := hide hBw
    have HOR := hide hor
    have hkN : (k : Int) < (N : Int) := by omega
    have hk0 : (0 : Int) ≤ (k : Int) := by omega
    have hk9 : (k : Int) ≤ 400 := by omega
    clear hor hml hBw hbl
    go_wp2_with fail
    refine HEN.out.mono ?_
    rintro e w4 ⟨v, mc', rfl, hown, hb⟩
    obtain ⟨oa, ob, oc, rfl, _, hob⟩ := own_ob hown
    have hz := dead_len (L := L) (m := m) (n := n) hob.1
    have HB4 := hide (hbw.out.trans (hb.mono hbw.out.size))
    have HO4 := hide (own_any g' 0 nm c' m w4 (HOR.out.grow hb).row (by omega))
    have HBB := hide (HBw.out.trans (hb.mono HBw.out.size))
    obtain ⟨d, hd⟩ : ∃ d, Hid (deadM n L m = d) := ⟨_, rfl⟩
    rw [hd.out] at hz
    clear hown hob hb HEN hcell hd0 hd1
    cases d
    · have HU : Hid (∀ i, i < k + 1 → deadM n L (s.ms.getD i []) = false) := fun i hi => by
        by_cases e : i = k
        · rw [e, hm.out]; exact hd.out
        · exact hu.out i (by omega)
      clear hu hm hd HO4
      go_wp2_with fail
      go_roundw
      case rel => exact ⟨k + 1, by omega, by go_num, HU, HB4⟩
      case measure => simp [intOf]; omega
    · have HF : Hid (FdAt (deadM n L) s.ms k) := ⟨by rw [hN.out]; exact hlt, hu.out, by rw [hm.out]; exact hd.out⟩
      go_wp2_with fail
      refine HO4.out.mono ?_
      rintro e w5 ⟨g5, c5, rfl, hg5, hc5, hor5, hb5⟩
      have HE := hide (HYE.out w5 k g5 c5 HF.out (by rw [hm.out]; exact hor5) (HBB.out.trans (hb5.mono HBB.out.size)))
      clear hor5 hb5
      go_wp2_with fail
      go_ret2
      exact HE.out
end Go.Proofs.Ytmicboobfnbclaa
