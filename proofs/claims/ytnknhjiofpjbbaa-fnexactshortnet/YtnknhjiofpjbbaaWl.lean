/- StartOf and EndOf, the program's and the specification's. -/
import Derived.Test.YtnknhjiofpjbbaaWk
import Derived.Test.YtnknhjiofpjbbaaOb
import Derived.Test.YtnknhjiofpjbbaaMk1
import Derived.BigFrame
namespace Go.Proofs.Ytnknhjiofpjbbaa
open Go.RowKit
set_option maxRecDepth 10000

/-- The mark with one token. -/
def oneF (s : Nat) (i : Nat) : Int := if i = s then 1 else 0
def oneL (p s : Nat) : List Int := listF (oneF s) p

/-- How a function of the program that answers a list and true ends. -/
def OEndW (g : Bool) (r : List Int) (w : World) (e : Ending) (w' : World) : Prop :=
  ∃ a b n c, e = .returned (.tuple #[.slice a n c, .bool g]) ∧ Ob w' a b n r ∧ w.heap.size ≤ b ∧ Below w.heap.size w w'

/-- How one of the specification ends. -/
def WEndW (g : Bool) (r : List Int) (w : World) (e : Ending) (w' : World) : Prop :=
  ∃ a n c, e = .returned (.tuple #[.slice a n c, .bool g]) ∧ Row w' a n r ∧ Below w.heap.size w w'

theorem blk_ob {w : World} {a : Option Addr} {b n : Nat} {xs : List Int} (h : Blk w a b n xs) : Ob w a b n xs := by
  refine ⟨h.1, ?_⟩
  rcases h.2 with h0 | ⟨e, hh⟩
  · exact .inl h0
  · refine .inr ⟨e, _, hh, ?_, fun i hi => ?_⟩
    · have := h.1; unfold cellsOf; simp; omega
    · have := h.1; unfold cellsOf; simp [show i < xs.length by omega]

/-- A whole array loaded, where the operation is wanted. -/
theorem wpList_load_wantW {P : Program} {ops : Array Oper} {rest : List Oper} {o : Oper} {a : Act} {w : World} {Q : Exit → Act → World → Prop} (hw : Region.wanted o (yielded ops a.tmps) = true) (ty : TypeId) (x : Operand) (ho : o.op = .load ty x)
    (g : Nat) (hx : a.eval x = .pointer (some ⟨g, 0, none⟩)) (t : TypeId) (cells : Array Value) (n : Nat) (e : TypeId) (hg : w.heap[g]? = some (.cells cells t (0, 0))) (hu : P.underlying ty = some (.array n e)) (hi : (P.info? ty).map (·.size) = some cells.size)
    (h : wpList P ops Q rest (a.put o.dst (.agg cells)) w) : wpList P ops Q (o :: rest) a w :=
  BigFrame.wpList_want hw fun _ hK => wp_load_row ty x ho g hx t cells (0, 0) _ hg hu rfl hi (hK _ _ h)

theorem zerosW : (#[.int .u8 0, .int .u8 0, .int .u8 0, .int .u8 0, .int .u8 0, .int .u8 0, .int .u8 0, .int .u8 0, .int .u8 0, .int .u8 0, .int .u8 0, .int .u8 0, .int .u8 0, .int .u8 0, .int .u8 0, .int .u8 0] : Array Value) = tokF (fun _ => 0) := rfl

theorem Try.sizeW106 : (Try.prog.info? 106).map (·.size) = some 16 := by kernel_rfl

theorem calls_tok {P : Program} {f : FuncId} {y : Value} {w : World} {R : Ending → World → Prop} {X : Array Value} {F : Nat → Int} (h : X = tokF F) (hc : Calls P f #[.agg (tokF F), y] w R) : Calls P f #[.agg X, y] w R := by rw [h]; exact hc

set_option maxHeartbeats 1000000 in
theorem oneOn_any (P s m c : Nat) (f t : Int) (a : Option Addr) (w : World) (hP : P ≤ 16) (hs : s < 16) :
    Calls Try.prog 51 #[.agg #[.int .i64 (P : Int), .slice a m c, .int .i64 f, .int .i64 t], .int .i64 (s : Int)] w fun e w' => ∃ b, e = .returned (.slice (some ⟨b, 0, none⟩) P P) ∧ w.heap.size ≤ b ∧ Ob w' (some ⟨b, 0, none⟩) b P (oneL P s) ∧ Below w.heap.size w w' := by
  have hat : (#[.int .u8 0, .int .u8 0, .int .u8 0, .int .u8 0, .int .u8 0, .int .u8 0, .int .u8 0, .int .u8 0, .int .u8 0, .int .u8 0, .int .u8 0, .int .u8 0, .int .u8 0, .int .u8 0, .int .u8 0, .int .u8 0] : Array Value)[s]? = some (.int .u8 0) := by
    rw [zerosW]; exact tokF_at _ _ hs
  have hs0 : (0 : Int) ≤ (s : Int) := by omega
  have hs1 : (s : Int) < 16 := by omega
  have key : ∀ V, Below w.heap.size w V → Calls Try.prog 75 #[.agg (tokF (oneF s)), .int .i64 (P : Int)] V fun e w' => ∃ b, e = .returned (.slice (some ⟨b, 0, none⟩) P P) ∧ Hid (w.heap.size ≤ b) ∧ Hid (Ob w' (some ⟨b, 0, none⟩) b P (oneL P s)) ∧ Hid (Below w.heap.size w w') := by
    intro V hV
    refine (list_any (oneF s) P V hP (fun i => by unfold oneF; split <;> omega)).mono ?_
    rintro e w' ⟨rfl, rfl⟩
    have h := blk_new' (V.alloc (.cells (tokF (oneF s)) 106)) (listF (oneF s) P) P (listF_len _ _)
    rw [show (V.alloc (.cells (tokF (oneF s)) 106)).heap.size = V.heap.size + 1 by simp] at h
    exact ⟨_, rfl, (show _ ≤ _ by have := hV.size; omega), blk_ob h, hV.trans ((below_two V _ _).mono hV.size)⟩
  have KEY := hide key
  clear key
  go_enter Try.func51, Try.ntmps51
  go_wp2_with fail
  refine calls_tok (F := oneF s) ?_ ?_
  · clear hat hs0 hs1 KEY
    have : s = 0 ∨ s = 1 ∨ s = 2 ∨ s = 3 ∨ s = 4 ∨ s = 5 ∨ s = 6 ∨ s = 7 ∨ s = 8 ∨ s = 9 ∨ s = 10 ∨ s = 11 ∨ s = 12 ∨ s = 13 ∨ s = 14 ∨ s = 15 := by omega
    rcases this with h | h | h | h | h | h | h | h | h | h | h | h | h | h | h | h <;> (subst h; rfl)
  refine (KEY.out _ (below_two w _ _)).mono ?_
  rintro e w' ⟨b, rfl, h1, h2, h3⟩
  clear KEY hat
  go_wp2_with fail
  go_ret
  exact ⟨_, rfl, h1.out, h2.out, h3.out⟩

/-- What StartOf and EndOf answer. -/
noncomputable def oneR (p : Int) (n : Nat) (L : List (List Int)) (s t q : Int) : List Int := if flowOk p n L s t then oneL p.toNat q.toNat else []

theorem oneR_len (p : Int) (n : Nat) (L : List (List Int)) (s t q : Int) (hp : flowOk p n L s t = true → p ≤ 16) : (oneR p n L s t q).length ≤ 16 := by
  unfold oneR; split
  · rename_i h
    unfold oneL; rw [listF_len]; have := hp h; omega
  · exact Nat.zero_le _

theorem flowOk_parts {p : Int} {n : Nat} {L : List (List Int)} {s t : Int} (h : flowOk p n L s t = true) : wayOk p n L s t = true ∧ ¬ s = t ∧ ((wayP p n L s t).length : Int) = p ∧ (wayT p n L s t).length = n ∧ anyK (spoilL L s t) n = false := by
  unfold flowOk at h
  simp only [Bool.and_eq_true, Bool.not_eq_true', decide_eq_true_iff, decide_eq_false_iff_not] at h
  exact ⟨h.1.1.1.1, h.1.1.1.2, h.1.1.2, h.1.2, h.2⟩

theorem flow_num {p : Int} {n : Nat} {L : List (List Int)} {s t : Int} (h : flowOk p n L s t = true) : (1 ≤ p ∧ p ≤ 16) ∧ n ≤ 24 ∧ (0 ≤ s ∧ s < p) ∧ (0 ≤ t ∧ t < p) := by
  obtain ⟨h1, _⟩ := flowOk_parts h
  obtain ⟨hg, hs, ht⟩ := wayOk_parts h1
  obtain ⟨hp, hn, _⟩ := netOk_parts hg
  exact ⟨hp, hn, hs, ht⟩

set_option maxHeartbeats 1000000 in
theorem startI_any (p s t : Int) (a : Option Addr) (n c : Nat) (L : List (List Int)) (w : World) (h : Lists w a (3 * n) L) (hs : sizeN n L ≤ 1048576) :
    Calls Try.prog 24 #[.agg #[.int .i64 p, .slice a n c, .int .i64 s, .int .i64 t]] w fun e w' => OEndW (flowOk p n L s t) (oneR p n L s t s) w e w' := by
  have HA := hide (below_al w (.cells #[.int .i64 p, .slice a n c, .int .i64 s, .int .i64 t] 33))
  have HF := hide (flowSteps_any p s t a n c L _ (h.below HA.out) hs)
  clear h
  go_enter Try.func24, Try.ntmps24
  go_wp2_with fail
  refine HF.out.mono ?_
  rintro e w1 ⟨p', a', m, c', s', t', rfl, hx, hb⟩
  have hA2 := below_al w1 (.cells #[.int .i64 p', .slice a' m c', .int .i64 s', .int .i64 t'] 62)
  have HB := hide ((HA.out.trans (hb.mono HA.out.size)).trans (hA2.mono (HA.out.trans (hb.mono HA.out.size)).size))
  clear hb HF hA2
  by_cases hg : flowOk p n L s t = true
  rotate_left
  · have hg' : flowOk p n L s t = false := by simpa using hg
    have HN : Hid (OEndW (flowOk p n L s t) (oneR p n L s t s) w (.returned (.tuple #[.slice none 0 0, .bool false])) (w1.alloc (.cells #[.int .i64 p', .slice a' m c', .int .i64 s', .int .i64 t'] 62))) :=
      ⟨none, w.heap.size, 0, 0, by rw [hg'], ⟨by unfold oneR; rw [hg']; rfl, .inl rfl⟩, Nat.le_refl _, HB.out⟩
    rw [hg']
    clear hx hg hg'
    go_wp2_with fail
    go_ret2
    exact HN.out
  obtain ⟨e1, e2, e3, e4, e5, B, rfl, hBs, hps⟩ := hx.out hg
  obtain ⟨⟨hp1, hp2⟩, hn24, hs1, ht1⟩ := flow_num hg
  subst e1 e2 e3 e4 e5
  obtain ⟨P, rfl⟩ : ∃ P : Nat, p' = (P : Int) := ⟨p'.toNat, by omega⟩
  obtain ⟨Q, hQ⟩ : ∃ Q : Nat, s' = (Q : Int) := ⟨s'.toNat, by omega⟩
  have HG := hide hg
  rw [hg]
  subst hQ
  have HO := hide (fun W => oneOn_any P Q c' c' (Q : Int) t' (some ⟨B, 0, none⟩) W (by omega) (by omega))
  have HZ := hide HB.out.size
  clear hx hps hg hBs
  go_wp2_with fail
  refine (HO.out _).mono ?_
  rintro e w2 ⟨b, rfl, hbs, hob, hb2⟩
  have HE : Hid (OEndW (flowOk (P : Int) c' L (Q : Int) t') (oneR (P : Int) c' L (Q : Int) t' (Q : Int)) w (.returned (.tuple #[.slice (some ⟨b, 0, none⟩) P P, .bool true])) w2) :=
    ⟨_, b, P, P, by rw [HG.out], by unfold oneR; rw [HG.out]; simpa using hob, by have := HZ.out; omega, HB.out.trans (hb2.mono HB.out.size)⟩
  clear hbs hob hb2 HO
  go_wp2_with fail
  go_ret2
  exact HE.out

set_option maxHeartbeats 1000000 in
theorem endI_any (p s t : Int) (a : Option Addr) (n c : Nat) (L : List (List Int)) (w : World) (h : Lists w a (3 * n) L) (hs : sizeN n L ≤ 1048576) :
    Calls Try.prog 27 #[.agg #[.int .i64 p, .slice a n c, .int .i64 s, .int .i64 t]] w fun e w' => OEndW (flowOk p n L s t) (oneR p n L s t t) w e w' := by
  have HA := hide (below_al w (.cells #[.int .i64 p, .slice a n c, .int .i64 s, .int .i64 t] 33))
  have HF := hide (flowSteps_any p s t a n c L _ (h.below HA.out) hs)
  clear h
  go_enter Try.func27, Try.ntmps27
  go_wp2_with fail
  refine HF.out.mono ?_
  rintro e w1 ⟨p', a', m, c', s', t', rfl, hx, hb⟩
  have hA2 := below_al w1 (.cells #[.int .i64 p', .slice a' m c', .int .i64 s', .int .i64 t'] 62)
  have HB := hide ((HA.out.trans (hb.mono HA.out.size)).trans (hA2.mono (HA.out.trans (hb.mono HA.out.size)).size))
  clear hb HF hA2
  by_cases hg : flowOk p n L s t = true
  rotate_left
  · have hg' : flowOk p n L s t = false := by simpa using hg
    have HN : Hid (OEndW (flowOk p n L s t) (oneR p n L s t t) w (.returned (.tuple #[.slice none 0 0, .bool false])) (w1.alloc (.cells #[.int .i64 p', .slice a' m c', .int .i64 s', .int .i64 t'] 62))) :=
      ⟨none, w.heap.size, 0, 0, by rw [hg'], ⟨by unfold oneR; rw [hg']; rfl, .inl rfl⟩, Nat.le_refl _, HB.out⟩
    rw [hg']
    clear hx hg hg'
    go_wp2_with fail
    go_ret2
    exact HN.out
  obtain ⟨e1, e2, e3, e4, e5, B, rfl, hBs, hps⟩ := hx.out hg
  obtain ⟨⟨hp1, hp2⟩, hn24, hs1, ht1⟩ := flow_num hg
  subst e1 e2 e3 e4 e5
  obtain ⟨P, rfl⟩ : ∃ P : Nat, p' = (P : Int) := ⟨p'.toNat, by omega⟩
  obtain ⟨Q, hQ⟩ : ∃ Q : Nat, t' = (Q : Int) := ⟨t'.toNat, by omega⟩
  have HG := hide hg
  rw [hg]
  subst hQ
  have HO := hide (fun W => oneOn_any P Q c' c' s' (Q : Int) (some ⟨B, 0, none⟩) W (by omega) (by omega))
  have HZ := hide HB.out.size
  clear hx hps hg hBs
  go_wp2_with fail
  refine (HO.out _).mono ?_
  rintro e w2 ⟨b, rfl, hbs, hob, hb2⟩
  have HE : Hid (OEndW (flowOk (P : Int) c' L s' (Q : Int)) (oneR (P : Int) c' L s' (Q : Int) (Q : Int)) w (.returned (.tuple #[.slice (some ⟨b, 0, none⟩) P P, .bool true])) w2) :=
    ⟨_, b, P, P, by rw [HG.out], by unfold oneR; rw [HG.out]; simpa using hob, by have := HZ.out; omega, HB.out.trans (hb2.mono HB.out.size)⟩
  clear hbs hob hb2 HO
  go_wp2_with fail
  go_ret2
  exact HE.out


set_option maxHeartbeats 1000000 in
theorem one3_any (P s : Nat) (w : World) (hP : P ≤ 16) (hs : s < P) :
    Calls Try.prog 50 #[.int .i64 (P : Int), .int .i64 (s : Int)] w fun e w' => ∃ a c, e = .returned (.slice a P c) ∧ Row w' a P (oneL P s) ∧ Below w.heap.size w w' := by
  have hmk := run_make_row' (P := Try.prog) 38 3 (.int .i64 0) 8 Try.underlying38 Try.info3 rfl .i64 .i64 P (by omega) (by omega)
  have hat : (madeCells #[.int .i64 0] P)[s]? = some (.int .i64 0) := by simp [madeCells, hs, Nat.mod_one]
  have hst : (madeCells #[.int .i64 0] P).setIfInBounds s (.int .i64 1) = cellsOf (oneL P s) := by
    apply Array.ext_getElem?
    intro i
    rw [Array.getElem?_setIfInBounds]
    by_cases hi : i < P
    · have h2 : (cellsOf (oneL P s))[i]? = some (.int .i64 (oneF s i)) := by unfold cellsOf oneL listF; simp [hi]
      rw [h2]
      by_cases e : s = i
      · subst e; simp [size_madeCells, hs, oneF]
      · rw [if_neg e]; simp [madeCells, hi, Nat.mod_one, oneF, show ¬ i = s by omega]
    · rw [Array.getElem?_eq_none (xs := cellsOf (oneL P s)) (by unfold cellsOf oneL; simp [listF_len]; omega), if_neg (by omega), Array.getElem?_eq_none (by rw [size_madeCells]; omega)]
  have HST := hide hst
  have hs1 : (s : Int) < (P : Int) := by omega
  clear hst
  go_enter Try.func50, Try.ntmps50
  go_wp2_with fail
  go_ret
  rw [HST.out]
  exact ⟨_, _, rfl, row_new w (oneL P s) P w.heap.size (by unfold oneL; exact listF_len _ _) rfl, below_al _ _⟩

set_option maxHeartbeats 1000000 in
theorem startS_any (p s t : Int) (a : Option Addr) (n c : Nat) (L : List (List Int)) (w : World) (h : Lists w a (3 * n) L) (hs : sizeN n L ≤ 1048576) :
    Calls Try.prog 23 #[.agg #[.int .i64 p, .slice a n c, .int .i64 s, .int .i64 t]] w fun e w' => WEndW (flowOk p n L s t) (oneR p n L s t s) w e w' := by
  have HA := hide (below_al w (.cells #[.int .i64 p, .slice a n c, .int .i64 s, .int .i64 t] 33))
  have PAR := hide (heap_alloc_new w (.cells #[.int .i64 p, .slice a n c, .int .i64 s, .int .i64 t] 33))
  have HF := hide (goodFlowS_any p s t a n c L _ (h.below HA.out) hs)
  clear h
  go_enter Try.func23, Try.ntmps23
  go_wp2_with fail
  refine HF.out.mono ?_
  rintro e w1 ⟨rfl, hb⟩
  have HB := hide (HA.out.trans (hb.mono HA.out.size))
  obtain ⟨⟨hc0, hc1, hc2, hc3⟩, _⟩ := cells4 (keep PAR.out hb)
  clear hb HF PAR
  by_cases hg : flowOk p n L s t = true
  rotate_left
  · have hg' : flowOk p n L s t = false := by simpa using hg
    have HN : Hid (WEndW (flowOk p n L s t) (oneR p n L s t s) w (.returned (.tuple #[.slice none 0 0, .bool false])) w1) :=
      ⟨none, 0, 0, by rw [hg'], ⟨by unfold oneR; rw [hg']; rfl, .inl rfl⟩, HB.out⟩
    rw [hg']
    clear hg hg'
    go_wp2_with fail
    go_ret2
    exact HN.out
  obtain ⟨⟨hp1, hp2⟩, hn24, hs1, ht1⟩ := flow_num hg
  obtain ⟨P, rfl⟩ : ∃ P : Nat, p = (P : Int) := ⟨p.toNat, by omega⟩
  obtain ⟨Q, hQ⟩ : ∃ Q : Nat, s = (Q : Int) := ⟨s.toNat, by omega⟩
  have HG := hide hg
  rw [hg]
  subst hQ
  have HO := hide (fun W => one3_any P Q W (by omega) (by omega))
  clear hg
  go_wp2_with fail
  refine (HO.out _).mono ?_
  rintro e w2 ⟨a2, c2, rfl, hrow, hb2⟩
  have HE : Hid (WEndW (flowOk (P : Int) n L (Q : Int) t) (oneR (P : Int) n L (Q : Int) t (Q : Int)) w (.returned (.tuple #[.slice a2 P c2, .bool true])) w2) :=
    ⟨_, P, _, by rw [HG.out], by unfold oneR; rw [HG.out]; simpa using hrow, HB.out.trans (hb2.mono HB.out.size)⟩
  clear hrow hb2 HO
  go_wp2_with fail
  go_ret2
  exact HE.out

set_option maxHeartbeats 1000000 in
theorem endS_any (p s t : Int) (a : Option Addr) (n c : Nat) (L : List (List Int)) (w : World) (h : Lists w a (3 * n) L) (hs : sizeN n L ≤ 1048576) :
    Calls Try.prog 26 #[.agg #[.int .i64 p, .slice a n c, .int .i64 s, .int .i64 t]] w fun e w' => WEndW (flowOk p n L s t) (oneR p n L s t t) w e w' := by
  have HA := hide (below_al w (.cells #[.int .i64 p, .slice a n c, .int .i64 s, .int .i64 t] 33))
  have PAR := hide (heap_alloc_new w (.cells #[.int .i64 p, .slice a n c, .int .i64 s, .int .i64 t] 33))
  have HF := hide (goodFlowS_any p s t a n c L _ (h.below HA.out) hs)
  clear h
  go_enter Try.func26, Try.ntmps26
  go_wp2_with fail
  refine HF.out.mono ?_
  rintro e w1 ⟨rfl, hb⟩
  have HB := hide (HA.out.trans (hb.mono HA.out.size))
  obtain ⟨⟨hc0, hc1, hc2, hc3⟩, _⟩ := cells4 (keep PAR.out hb)
  clear hb HF PAR
  by_cases hg : flowOk p n L s t = true
  rotate_left
  · have hg' : flowOk p n L s t = false := by simpa using hg
    have HN : Hid (WEndW (flowOk p n L s t) (oneR p n L s t t) w (.returned (.tuple #[.slice none 0 0, .bool false])) w1) :=
      ⟨none, 0, 0, by rw [hg'], ⟨by unfold oneR; rw [hg']; rfl, .inl rfl⟩, HB.out⟩
    rw [hg']
    clear hg hg'
    go_wp2_with fail
    go_ret2
    exact HN.out
  obtain ⟨⟨hp1, hp2⟩, hn24, hs1, ht1⟩ := flow_num hg
  obtain ⟨P, rfl⟩ : ∃ P : Nat, p = (P : Int) := ⟨p.toNat, by omega⟩
  obtain ⟨Q, hQ⟩ : ∃ Q : Nat, t = (Q : Int) := ⟨t.toNat, by omega⟩
  have HG := hide hg
  rw [hg]
  subst hQ
  have HO := hide (fun W => one3_any P Q W (by omega) (by omega))
  clear hg
  go_wp2_with fail
  refine (HO.out _).mono ?_
  rintro e w2 ⟨a2, c2, rfl, hrow, hb2⟩
  have HE : Hid (WEndW (flowOk (P : Int) n L s (Q : Int)) (oneR (P : Int) n L s (Q : Int) (Q : Int)) w (.returned (.tuple #[.slice a2 P c2, .bool true])) w2) :=
    ⟨_, P, _, by rw [HG.out], by unfold oneR; rw [HG.out]; simpa using hrow, HB.out.trans (hb2.mono HB.out.size)⟩
  clear hrow hb2 HO
  go_wp2_with fail
  go_ret2
  exact HE.out


end Go.Proofs.Ytnknhjiofpjbbaa
