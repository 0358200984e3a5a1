/- Contracts that the proof stands on, one behind the other. -/
import Derived.Test.YtdhnhpjcoeglmaaP25
import Derived.RangeFuncNested
import Derived.RangeFuncBound
import Derived.RangeFuncCalls
import Derived.RangeFuncLeaves
import Derived.Shelf.Abstract
import Derived.Shelf.RegionOpen
import Derived.WalkKit
import Derived.OwnWalkIn
import Derived.TacticsInMore
import Derived.LoopNIn
import Derived.LoopIn
/- slices.Backward over arcs: what its function hands to a loop's body. -/
namespace Go.Proofs.Ytdhnhpjcoeglmaa
open Go.RowKit Go.Shelf
set_option maxRecDepth 10000
attribute [local go_sem] Oper.semAt_some

/-- An arc to a mark of less than N. -/
abbrev ArcN (N : Nat) := { t : Nat × Nat × Nat // t.2.2 < N }
def arcV (t : Nat × Nat × Nat) : Value := .agg #[.int .i64 (t.1 : Int), .int .i64 (t.2.1 : Int), .int .i64 (t.2.2 : Int)]
def uptoJ {α : Type} (f : Nat → α) (k : Nat) : List α := (List.range k).map f
theorem uptoJ_succ {α : Type} (f : Nat → α) (k : Nat) : uptoJ f (k + 1) = uptoJ f k ++ [f k] := by simp [uptoJ, List.range_succ]
theorem uptoJ_length {α : Type} (f : Nat → α) (k : Nat) : (uptoJ f k).length = k := by simp [uptoJ]

/-- What comes at the k-th round. -/
def comes {N : Nat} (len : Nat) (f : Nat → ArcN N) (k : Nat) : Nat × ArcN N := (len - 1 - k, f (len - 1 - k))

/-- What a round keeps: the slice's box and its arcs. -/
def KpJ (Bs b : Nat) (W W' : World) : Prop := W'.heap[Bs]? = W.heap[Bs]? ∧ W'.heap[b]? = W.heap[b]?
theorem KpJ.trans {Bs b : Nat} {A B C : World} (h : KpJ Bs b A B) (k : KpJ Bs b B C) : KpJ Bs b A C := ⟨k.1.trans h.1, k.2.trans h.2⟩
theorem KpJ.refl (Bs b : Nat) (W : World) : KpJ Bs b W W := ⟨rfl, rfl⟩
theorem cell_sameJ {W W' : World} {g o : Nat} (h : W'.heap[g]? = W.heap[g]?) : W'.cell? ⟨g, o, none⟩ = W.cell? ⟨g, o, none⟩ := by
  unfold World.cell?; rw [h]
theorem KpJ.box {Bs b o : Nat} {W W' : World} (h : KpJ Bs b W W') : W'.cell? ⟨Bs, o, none⟩ = W.cell? ⟨Bs, o, none⟩ := cell_sameJ h.1
theorem KpJ.arc {Bs b o : Nat} {W W' : World} (h : KpJ Bs b W W') : W'.cell? ⟨b, o, none⟩ = W.cell? ⟨b, o, none⟩ := cell_sameJ h.2

set_option maxRecDepth 100000 in
set_option maxHeartbeats 2000000 in
theorem back1_in (F : Fence) (n : Nat) (h7 : F.fn 181) (hro : F.round = none) (hn : 1 ≤ n) (l Bs b len cap N : Nat) (f : Nat → ArcN N) (hreach : len ≤ 9600) (J Jx : List (Nat × ArcN N) → World → Prop)
    (hY : ∀ pre x W, J pre W → pre.length < len → YieldAt F (n - 1) Try.prog l #[.int .i64 (x.1 : Int), arcV x.2.1] W fun e W' =>
      (e = .returned (.bool true) ∧ J (pre ++ [x]) W' ∧ KpJ Bs b W W') ∨ (e = .returned (.bool false) ∧ Jx (pre ++ [x]) W'))
    (W : World) (hBs : W.cell? ⟨Bs, 0, none⟩ = some (.slice (some ⟨b, 0, none⟩) len cap))
    (hc : ∀ j, j < len → W.cell? ⟨b, j * 3, none⟩ = some (.int .i64 ((f j).1.1 : Int)) ∧ W.cell? ⟨b, j * 3 + 1, none⟩ = some (.int .i64 ((f j).1.2.1 : Int)) ∧ W.cell? ⟨b, j * 3 + 2, none⟩ = some (.int .i64 ((f j).1.2.2 : Int))) (h0 : J [] W) :
    CallsIn F n Try.prog 181 #[.func (.yield l) #[] #[], .pointer (some ⟨Bs, 0, none⟩)] W fun e W' => (∃ v, e = .returned v) ∧
      ((∃ ys, ys = uptoJ (comes len f) len ∧ J ys W') ∨ (∃ pre, (∃ k, k ≤ len ∧ pre = uptoJ (comes len f) k) ∧ Jx pre W')) := by
  refine callsIn_of_wp Try.func181 rfl h7 ?_ hro
  simp only [Try.ntmps181, List.size_toArray, List.length_cons, List.length_nil, Nat.reduceAdd, Nat.reduceSub, Array.replicate_succ, Array.replicate_zero, List.push_toArray, List.append_toArray, List.nil_append, List.cons_append]
  gi_wp2
  gi_loopw [3] (fun i wr => ∃ j : Nat, j ≤ len ∧ i = .int .i64 ((j : Int) - 1) ∧ J (uptoJ (comes len f) (len - j)) wr ∧ KpJ Bs b W wr)
    (fun i _ => (intOf i + 1).toNat)
  case atStart => exact ⟨len, Nat.le_refl _, by go_num, by rw [Nat.sub_self]; exact h0, KpJ.refl _ _ _⟩
  case round =>
    obtain ⟨j, hj, rfl, hJs, hnx⟩ := hrel
    have hBB := hnx.box.trans hBs
    cases j with
    | succ j =>
      have e1 : ((j + 1 : Nat) : Int) - 1 = (j : Int) := by omega
      rw [e1]
      obtain ⟨q0, q1, q2⟩ := hc j (by omega)
      have p0 := hnx.arc.trans q0
      have p1 := hnx.arc.trans q1
      have p2 := hnx.arc.trans q2
      clear q0 q1 q2
      obtain ⟨fn, tmps, assign, body, hy, hR⟩ := hY _ (j, f j) wr hJs (by rw [uptoJ_length]; omega)
      dsimp only [arcV] at hy
      have hji : (0 : Int) ≤ (j : Int) := by omega
      gi_wp2
      refine hR.mono ?_
      have eC : comes len f (len - (j + 1)) = (j, f j) := by
        have : len - 1 - (len - (j + 1)) = j := by omega
        unfold comes; rw [this]
      have eL : len - j = (len - (j + 1)) + 1 := by omega
      rintro e W3 (⟨rfl, hJ3, hk3⟩ | ⟨rfl, hJx3⟩)
      · gi_wp2
        go_roundw
        case rel => exact ⟨j, by omega, by go_num, by rw [eL, uptoJ_succ, eC]; exact hJ3, hnx.trans hk3⟩
        case measure => simp [intOf]
      · gi_wp2
        refine bodyPost_ret (results_none rfl _ _ _) rfl ?_
        exact ⟨⟨_, rfl⟩, .inr ⟨_, ⟨len - (j + 1) + 1, by omega, rfl⟩, by rw [uptoJ_succ, eC]; exact hJx3⟩⟩
    | zero =>
      gi_wp2
      go_end0
      exact ⟨⟨_, rfl⟩, .inl ⟨_, rfl, by simpa using hJs⟩⟩

set_option maxHeartbeats 1000000 in
theorem back1_nil_in (F : Fence) (n : Nat) (h7 : F.fn 181) (hro : F.round = none) (l Bs N : Nat) (J : List (Nat × ArcN N) → World → Prop) (W : World) (hBs : W.cell? ⟨Bs, 0, none⟩ = some (.slice none 0 0)) (h0 : J [] W) :
    CallsIn F n Try.prog 181 #[.func (.yield l) #[] #[], .pointer (some ⟨Bs, 0, none⟩)] W fun e W' => (∃ v, e = .returned v) ∧ J [] W' := by
  refine callsIn_of_wp Try.func181 rfl h7 ?_ hro
  simp only [Try.ntmps181, List.size_toArray, List.length_cons, List.length_nil, Nat.reduceAdd, Nat.reduceSub, Array.replicate_succ, Array.replicate_zero, List.push_toArray, List.append_toArray, List.nil_append, List.cons_append]
  gi_wp2
  gi_loopw [3] (fun i wr => i = .int .i64 (-1) ∧ J [] wr) (fun _ _ => 0)
  case atStart => exact ⟨rfl, h0⟩
  case round =>
    obtain ⟨rfl, hJs⟩ := hrel
    gi_wp2
    go_end0
    exact ⟨⟨_, rfl⟩, hJs⟩

set_option maxHeartbeats 1000000 in
theorem back_any (a : Option Addr) (len cap : Nat) (w : World) :
    Calls Try.prog 161 #[.slice a len cap] w fun e w' => e = .returned (.func (.func 181) #[] #[.pointer (some ⟨w.heap.size, 0, none⟩)]) ∧ w' = w.alloc (.cells #[.slice a len cap] 59) := by
  go_enter Try.func161, Try.ntmps161
  go_wp2
  go_ret
  exact ⟨rfl, rfl⟩

theorem back_stops (F : Fence) (n : Nat) (h7 : F.fn 181) (hro : F.round = none) (hn : 1 ≤ n) (Bs b len cap N : Nat) (a : Option Addr) (f : Nat → ArcN N) (hreach : len ≤ 9600) (w : World) (hBs : Bs < w.heap.size) (hb : b < w.heap.size)
    (hc : w.cell? ⟨Bs, 0, none⟩ = some (.slice a len cap)) (ha : (a = none ∧ len = 0 ∧ cap = 0) ∨ (a = some ⟨b, 0, none⟩ ∧ ∀ j, j < len → w.cell? ⟨b, j * 3, none⟩ = some (.int .i64 ((f j).1.1 : Int)) ∧ w.cell? ⟨b, j * 3 + 1, none⟩ = some (.int .i64 ((f j).1.2.1 : Int)) ∧ w.cell? ⟨b, j * 3 + 2, none⟩ = some (.int .i64 ((f j).1.2.2 : Int)))) :
    SeqStopsK F n Try.prog 181 #[.pointer (some ⟨Bs, 0, none⟩)] (fun x : Nat × ArcN N => #[Value.int .i64 (x.1 : Int), arcV x.2.1]) (KpJ Bs b) (fun ys => ys = uptoJ (comes len f) len) (fun pre => ∃ k, k ≤ len ∧ pre = uptoJ (comes len f) k) len w := fun l J Jx W hW _ _ hY h0 => by
  have hc' := (hW.cell (p := ⟨Bs, 0, none⟩) hBs).trans hc
  rcases ha with ⟨rfl, rfl, rfl⟩ | ⟨rfl, hcs⟩
  · exact (back1_nil_in F n h7 hro l Bs N J W hc' h0).mono fun e W' ⟨he, hj⟩ => ⟨he, .inl ⟨_, rfl, hj⟩⟩
  · exact back1_in F n h7 hro hn l Bs b len cap N f hreach J Jx hY W hc' (fun j hj => ⟨(hW.cell (p := ⟨b, j * 3, none⟩) hb).trans (hcs j hj).1, (hW.cell (p := ⟨b, j * 3 + 1, none⟩) hb).trans (hcs j hj).2.1, (hW.cell (p := ⟨b, j * 3 + 2, none⟩) hb).trans (hcs j hj).2.2⟩) h0
end Go.Proofs.Ytdhnhpjcoeglmaa


/- slices.Reverse of numbers. -/
namespace Go.Proofs.Ytdhnhpjcoeglmaa
open Go.RowKit
set_option maxRecDepth 10000

/-- The first k and the last k have changed places. -/
def revF (l : List Int) (n k : Nat) (y : Nat) : Int := if y < k ∨ n ≤ y + k then l.getD (n - 1 - y) 0 else l.getD y 0

theorem revF_zero (l : List Int) (n y : Nat) (hy : y < n) : revF l n 0 y = l.getD y 0 := by
  unfold revF; rw [if_neg (by omega)]
theorem revF_end (l : List Int) {n k : Nat} (hk : n ≤ 2 * k + 1) (y : Nat) (hy : y < n) : revF l n k y = l.getD (n - 1 - y) 0 := by
  unfold revF
  by_cases h : y < k ∨ n ≤ y + k
  · rw [if_pos h]
  · rw [if_neg h]; congr 1; omega
theorem listF_ext {f g : Nat → Int} {n : Nat} (h : ∀ y, y < n → f y = g y) : listF f n = listF g n := by
  unfold listF
  apply List.map_congr_left
  intro y hy
  exact h y (List.mem_range.mp hy)
theorem listF_rev {l : List Int} {n : Nat} (hl : l.length = n) : listF (fun y => l.getD (n - 1 - y) 0) n = l.reverse := by
  subst hl
  unfold listF
  apply List.ext_getElem
  · simp
  · intro i h1 h2
    simp at h1
    simp [List.getElem_reverse, List.getElem?_eq_getElem (show l.length - 1 - i < l.length by omega)]
theorem listF_same {l : List Int} {n : Nat} (hl : l.length = n) : listF (fun y => l.getD y 0) n = l := by
  subst hl
  unfold listF
  apply List.ext_getElem
  · simp
  · intro i h1 h2
    simp at h1
    simp [List.getElem?_eq_getElem h1]
theorem revF_step (l : List Int) {n k m : Nat} (hm : m = n - 1 - k) (hkm : k < m) (y : Nat) (hy : y < n) : setF (setF (revF l n k) k (revF l n k m)) m (revF l n k k) y = revF l n (k + 1) y := by
  have ek : revF l n k k = l.getD k 0 := by unfold revF; rw [if_neg (by omega)]
  have em : revF l n k m = l.getD m 0 := by unfold revF; rw [if_neg (by omega)]
  rw [ek, em]
  by_cases h1 : y = m
  · subst h1
    rw [setF_same]
    unfold revF; rw [if_pos (by omega)]; congr 1; try omega
  · rw [setF_ne _ _ h1]
    by_cases h2 : y = k
    · subst h2
      rw [setF_same]
      unfold revF; rw [if_pos (by omega)]; congr 1; try omega
    · rw [setF_ne _ _ h2]
      unfold revF
      by_cases h3 : y < k ∨ n ≤ y + k
      · rw [if_pos h3, if_pos (by omega)]
      · rw [if_neg h3, if_neg (by omega)]

theorem Ob.movedJ {w w' : World} {a : Option Addr} {b n : Nat} {xs : List Int} (h : Ob w a b n xs) (hh : w'.heap[b]? = w.heap[b]?) : Ob w' a b n xs := by
  refine ⟨h.1, ?_⟩
  rcases h.2 with h0 | ⟨e, cur, h1, h2⟩
  · exact .inl h0
  · exact .inr ⟨e, cur, hh.trans h1, h2⟩

set_option maxHeartbeats 2000000 in
theorem rev_any (b n c B : Nat) (l : List Int) (w : World) (h : OutR w b n l) (hn : n ≤ 1000) (hB : B ≤ b) :
    Calls Try.prog 162 #[.slice (some ⟨b, 0, none⟩) n c] w fun e w' => (∃ v, e = .returned v) ∧ OutR w' b n l.reverse ∧ Below B w w' := by
  have hl := h.1
  have h0 : FarR w b n (revF l n 0) := by
    unfold FarR
    rw [listF_ext (g := fun y => l.getD y 0) (fun y hy => revF_zero l n y hy), listF_same hl]
    exact h
  have HEND := hide (fun (k : Nat) (W : World) (hk : n ≤ 2 * k + 1) (hw : FarR W b n (revF l n k)) => show OutR W b n l.reverse by
    unfold FarR at hw
    rw [listF_ext (g := fun y => l.getD (n - 1 - y) 0) (fun y hy => revF_end l hk y hy), listF_rev hl] at hw
    exact hw)
  clear h
  go_enter Try.func162, Try.ntmps162
  go_wp2_with fail
  go_loopw [2, 3] (fun i j wr => ∃ k : Nat, 2 * k ≤ n + 1 ∧ i = .int .i64 (k : Int) ∧ j = .int .i64 ((n : Int) - 1 - (k : Int)) ∧ Hid (FarR wr b n (revF l n k)) ∧ Hid (Below B w wr)) (fun i _ _ => n + 1 - (intOf i).toNat)
  case atStart => exact ⟨0, by omega, by go_num, by go_num, h0, Below.refl _ _⟩
  case round =>
    obtain ⟨k, hk, rfl, rfl, hf, hbw⟩ := hrel
    by_cases hgo : (k : Int) < (n : Int) - 1 - (k : Int)
    rotate_left
    · have HE := hide (HEND.out k wr (by omega) hf.out)
      have hgo' : (n : Int) - 1 - (k : Int) ≤ (k : Int) := by omega
      clear HEND hf hgo
      go_wp2_with fail
      go_end0
      exact ⟨⟨_, rfl⟩, HE.out, hbw.out⟩
    obtain ⟨m, hm⟩ : ∃ m : Nat, (n : Int) - 1 - (k : Int) = (m : Int) := ⟨n - 1 - k, by omega⟩
    rw [hm] at hgo ⊢
    have hkm : k < m := by omega
    have hmn : m < n := by omega
    have hkn : k < n := by omega
    obtain ⟨ck, fk, _⟩ := hf.out.at hkn
    obtain ⟨cm, fm, _⟩ := hf.out.at hmn
    obtain ⟨x, hx⟩ : ∃ x, Hid (revF l n k k = x) := ⟨_, rfl⟩
    obtain ⟨y, hy⟩ : ∃ y, Hid (revF l n k m = y) := ⟨_, rfl⟩
    have HF := hide ((hf.out.set hkn y).set hmn x)
    have HB2 := hide ((hbw.out.setCell (p := ⟨b, k, none⟩) hB (.int .i64 y)).setCell (p := ⟨b, m, none⟩) hB (.int .i64 x))
    have HF2 : Hid (FarR ((wr.setCell ⟨b, k, none⟩ (.int .i64 y)).setCell ⟨b, m, none⟩ (.int .i64 x)) b n (revF l n (k + 1))) := by
      have := HF.out
      unfold FarR at this
      rw [listF_ext (g := revF l n (k + 1)) (fun q hq => by rw [← hx.out, ← hy.out]; exact revF_step l (by omega) hkm q hq)] at this
      exact this
    rw [hx.out] at ck
    rw [hy.out] at cm
    have hgk : (k : Int) < (n : Int) := by omega
    have hgm : (m : Int) < (n : Int) := by omega
    clear hf hbw HF HEND hx hy
    go_wp2_with fail
    go_region
    all_goals go_wp2_with fail
    all_goals
      go_roundw
      case rel => exact ⟨k + 1, by omega, by go_num, by go_num, HF2.out, HB2.out.drew⟩
      case measure => simp [intOf]; omega

set_option maxHeartbeats 1000000 in
theorem rev_nil (a : Option Addr) (c : Nat) (w : World) : Calls Try.prog 162 #[.slice a 0 c] w fun e w' => (∃ v, e = .returned v) ∧ w' = w := by
  go_enter Try.func162, Try.ntmps162
  go_wp2_with fail
  go_loopw [2, 3] (fun i j wr => i = .int .i64 0 ∧ j = .int .i64 (-1) ∧ wr = w) (fun _ _ _ => 0)
  case atStart => exact ⟨rfl, by go_num, rfl⟩
  case round =>
    obtain ⟨rfl, rfl, rfl⟩ := hrel
    go_wp2_with fail
    go_end0
    exact ⟨⟨_, rfl⟩, rfl⟩

theorem revO_any (a : Option Addr) (b n c B : Nat) (l : List Int) (w : World) (h : Ob w a b n l) (hn : n ≤ 1000) (hB : B ≤ b) :
    Calls Try.prog 162 #[.slice a n c] w fun e w' => (∃ v, e = .returned v) ∧ Ob w' a b n l.reverse ∧ Below B w w' := by
  rcases h.2 with h0 | ⟨rfl, h1⟩
  · subst h0
    refine (rev_nil a c w).mono ?_
    rintro e w' ⟨he, rfl⟩
    exact ⟨he, ⟨by rw [List.length_reverse]; exact h.1, .inl rfl⟩, Below.refl _ _⟩
  · refine (rev_any b n c B l w ⟨h.1, h1⟩ hn hB).mono ?_
    rintro e w' ⟨he, ho, hb⟩
    exact ⟨he, ⟨ho.1, .inr ⟨rfl, ho.2⟩⟩, hb⟩
end Go.Proofs.Ytdhnhpjcoeglmaa


/- The program's wayTo: back by the arcs by which marks were met. -/
namespace Go.Proofs.Ytdhnhpjcoeglmaa
open Go.RowKit Go.Shelf
set_option maxRecDepth 10000
attribute [local go_sem] Oper.semAt_some

/-- The last one of pre that goes to y. -/
def tabP {N : Nat} (pre : List (Nat × ArcN N)) (y : Nat) : Nat × Nat × Nat := pre.foldl (fun m x => if x.2.1.2.2 = y then x.2.1 else m) a0
theorem tabP_snoc {N : Nat} (pre : List (Nat × ArcN N)) (x : Nat × ArcN N) (y : Nat) : tabP (pre ++ [x]) y = if x.2.1.2.2 = y then x.2.1 else tabP pre y := by simp [tabP, List.foldl_append]

theorem mbA_cons (a : Nat × Nat × Nat) (r : Arcs) (y : Nat) : mbA (a :: r) y = if a.2.2 = y then a else mbA r y := by
  unfold mbA fiA
  rw [List.findIdx_cons]
  by_cases h : a.2.2 = y
  · simp [h]
  · have h2 : (a.2.2 == y) = false := by simp [h]
    rw [h2, if_neg h]; simp

/-- The k-th arc. -/
def arcF (N : Nat) (hN : 0 < N) (ar : Arcs) (k : Nat) : ArcN N := if h : (ar.getD k a0).2.2 < N then ⟨ar.getD k a0, h⟩ else ⟨a0, hN⟩

theorem arcF_at {N : Nat} (hN : 0 < N) {ar : Arcs} (har : ∀ a ∈ ar, a.2.2 < N) {k : Nat} (hk : k < ar.length) : (arcF N hN ar k).1 = ar.getD k a0 := by
  have h : (ar.getD k a0).2.2 < N := by
    rw [List.getD_eq_getElem?_getD, List.getElem?_eq_getElem hk]; exact har _ (List.getElem_mem hk)
  unfold arcF; rw [dif_pos h]

theorem tabP_upto {N : Nat} (hN : 0 < N) {ar : Arcs} (har : ∀ a ∈ ar, a.2.2 < N) (y : Nat) : ∀ k, k ≤ ar.length → tabP (uptoJ (comes ar.length (arcF N hN ar)) k) y = mbA (ar.drop (ar.length - k)) y := by
  intro k
  induction k with
  | zero => intro _; rw [Nat.sub_zero, List.drop_length]; rfl
  | succ k ih =>
    intro hk
    have hd : ar.drop (ar.length - (k + 1)) = ar.getD (ar.length - (k + 1)) a0 :: ar.drop (ar.length - k) := by
      rw [List.drop_eq_getElem_cons (show ar.length - (k + 1) < ar.length by omega), List.getD_eq_getElem?_getD, List.getElem?_eq_getElem (show ar.length - (k + 1) < ar.length by omega)]
      rw [show ar.length - (k + 1) + 1 = ar.length - k by omega]; rfl
    have e : ar.length - 1 - k = ar.length - (k + 1) := by omega
    rw [uptoJ_succ, tabP_snoc, ih (by omega), hd, mbA_cons]
    unfold comes
    rw [e, arcF_at hN har (by omega)]

theorem tabP_all {N : Nat} (hN : 0 < N) {ar : Arcs} (har : ∀ a ∈ ar, a.2.2 < N) (y : Nat) : tabP (uptoJ (comes ar.length (arcF N hN ar)) ar.length) y = mbA ar y := by
  rw [tabP_upto hN har y _ (Nat.le_refl _), Nat.sub_self, List.drop_zero]

/-- A table of arcs. -/
def ArcTab (W : World) (G N : Nat) (t : Nat → Nat × Nat × Nat) : Prop :=
  ∃ C, W.heap[G]? = some (.cells C 66 (0, 0)) ∧ C.size = N * 3 ∧ ∀ y, y < N → C[y * 3]? = some (.int .i64 ((t y).1 : Int)) ∧ C[y * 3 + 1]? = some (.int .i64 ((t y).2.1 : Int)) ∧ C[y * 3 + 2]? = some (.int .i64 ((t y).2.2 : Int))

theorem ArcTab.same {W W' : World} {G N : Nat} {t : Nat → Nat × Nat × Nat} (h : ArcTab W G N t) (e : W'.heap[G]? = W.heap[G]?) : ArcTab W' G N t := by
  obtain ⟨C, h1, h2⟩ := h
  exact ⟨C, e.trans h1, h2⟩
theorem ArcTab.lt {W : World} {G N : Nat} {t : Nat → Nat × Nat × Nat} (h : ArcTab W G N t) : G < W.heap.size := by
  obtain ⟨C, h1, h2⟩ := h
  exact (Array.getElem?_eq_some_iff.mp h1).1
theorem ArcTab.ext {W : World} {G N : Nat} {t t' : Nat → Nat × Nat × Nat} (h : ArcTab W G N t) (e : ∀ y, y < N → t' y = t y) : ArcTab W G N t' := by
  obtain ⟨C, h1, h2, h3⟩ := h
  exact ⟨C, h1, h2, fun y hy => by rw [e y hy]; exact h3 y hy⟩
theorem ArcTab.at {W : World} {G N : Nat} {t : Nat → Nat × Nat × Nat} (h : ArcTab W G N t) {y : Nat} (hy : y < N) :
    W.cell? ⟨G, y * 3, none⟩ = some (.int .i64 ((t y).1 : Int)) ∧ W.cell? ⟨G, y * 3 + 1, none⟩ = some (.int .i64 ((t y).2.1 : Int)) ∧ W.cell? ⟨G, y * 3 + 2, none⟩ = some (.int .i64 ((t y).2.2 : Int)) ∧ W.frozen? ⟨G, y * 3, none⟩ = false ∧ W.frozen? ⟨G, y * 3 + 1, none⟩ = false ∧ W.frozen? ⟨G, y * 3 + 2, none⟩ = false := by
  obtain ⟨C, h1, h2, h3⟩ := h
  obtain ⟨q0, q1, q2⟩ := h3 y hy
  refine ⟨?_, ?_, ?_, frozen_of_row _ _ _ C _ h1, frozen_of_row _ _ _ C _ h1, frozen_of_row _ _ _ C _ h1⟩
  · rw [cell_of_row _ G _ C _ _ h1, q0]
  · rw [cell_of_row _ G _ C _ _ h1, q1]
  · rw [cell_of_row _ G _ C _ _ h1, q2]
theorem ArcTab.set {W : World} {G N : Nat} {t : Nat → Nat × Nat × Nat} (h : ArcTab W G N t) {z : Nat} (hz : z < N) (a : Nat × Nat × Nat) :
    ArcTab (W.setCells G (z * 3) [.int .i64 (a.1 : Int), .int .i64 (a.2.1 : Int), .int .i64 (a.2.2 : Int)]) G N (fun y => if z = y then a else t y) := by
  obtain ⟨C, h1, h2, h3⟩ := h
  refine ⟨_, heap_set3_same h1 _ _ _, by simp [h2], fun y hy => ?_⟩
  by_cases e : z = y
  · subst e
    simp only [if_true]
    have hz3 : z * 3 + 2 < C.size := by omega
    refine ⟨?_, ?_, ?_⟩
    · simp only [Array.getElem?_setIfInBounds, Array.size_setIfInBounds]; rw [if_neg (by omega), if_neg (by omega), if_pos trivial, if_pos (by omega)]
    · simp only [Array.getElem?_setIfInBounds, Array.size_setIfInBounds]; rw [if_neg (by omega), if_pos trivial, if_pos (by omega)]
    · simp only [Array.getElem?_setIfInBounds, Array.size_setIfInBounds]; simp only [if_true]; rw [if_pos (show z * 3 + 1 + 1 < C.size by omega)]
  · simp only [if_neg e]
    obtain ⟨q0, q1, q2⟩ := h3 y hy
    refine ⟨?_, ?_, ?_⟩
    · rw [← q0]; simp only [Array.getElem?_setIfInBounds]; rw [if_neg (by omega), if_neg (by omega), if_neg (by omega)]
    · rw [← q1]; simp only [Array.getElem?_setIfInBounds]; rw [if_neg (by omega), if_neg (by omega), if_neg (by omega)]
    · rw [← q2]; simp only [Array.getElem?_setIfInBounds]; rw [if_neg (by omega), if_neg (by omega), if_neg (by omega)]
theorem ArcTab.made (w : World) (N : Nat) : ArcTab (w.alloc (.cells (madeCells #[.int .i64 0, .int .i64 0, .int .i64 0] (N * 3)) 66)) w.heap.size N (fun _ => a0) := by
  refine ⟨_, heap_alloc_new _ _, by rw [size_madeCells], fun y hy => ?_⟩
  have e : ∀ j, j < N * 3 → (madeCells #[.int .i64 0, .int .i64 0, .int .i64 0] (N * 3))[j]? = some (.int .i64 0) := by
    intro j hj
    simp only [madeCells, Array.getElem?_map, Array.getElem?_range, hj, if_true]
    have h3 : j % 3 = 0 ∨ j % 3 = 1 ∨ j % 3 = 2 := by omega
    rcases h3 with e | e | e <;> simp [e]
  exact ⟨e _ (by omega), e _ (by omega), e _ (by omega)⟩

theorem heap_ownJ {W W' : World} {row : Option Nat} {G : Nat} {C : Array Value} {T : TypeId} {x : Nat × Nat} (h : W.heap[G]? = some (.cells C T x)) (hg : W.grownBy W' row) (hr : ∀ r, row = some r → ∃ o : Obj, W.heap[r]? = some o ∧ o.isCells = false) : W'.heap[G]? = W.heap[G]? := by
  refine hg.block G (Array.getElem?_eq_some_iff.mp h).1 ?_
  intro e
  obtain ⟨o, ho, hc⟩ := hr G (by first | exact e | exact e.symm)
  rw [h] at ho
  cases ho
  simp [Obj.isCells] at hc

theorem arcTab_own {β : Type} (B G N : Nat) (t : β → Nat → Nat × Nat × Nat) : OwnFrom B (fun s W => ArcTab W G N (t s)) := by
  intro s W W' row hs hg hr
  have hs2 := hs
  obtain ⟨C, h1, _⟩ := hs2
  exact hs.same (heap_ownJ h1 hg fun r e => (hr r e).2)

theorem keepsOthers_set3 (W : World) (G o : Nat) (v0 v1 v2 : Value) : KeepsOthers W (W.setCells G o [v0, v1, v2]) := by
  simp only [World.setCells]
  exact ((KeepsOthers.setCell _ _ _).trans (KeepsOthers.setCell _ _ _)).trans (KeepsOthers.setCell _ _ _)

theorem ArcTab.otherJ {w w' : World} {B n q N : Nat} {v : Value} {xs : List Value} {t : Nat → Nat × Nat × Nat} (h : ArcTab w q N t) (hown : w.ownsRow B 3 1 v n xs) (hg : w.grownBy w' v.ownBlock) : ArcTab w' q N t := by
  obtain ⟨C, h1, h2⟩ := h
  exact ⟨C, own_otherJ hown hg h1 (by decide), h2⟩
end Go.Proofs.Ytdhnhpjcoeglmaa


/- The program's wayTo, walked. -/
namespace Go.Proofs.Ytdhnhpjcoeglmaa
open Go.RowKit Go.Shelf
set_option maxRecDepth 10000
attribute [local go_sem] Oper.semAt_some

/-- How wayTo ends. -/
def WyEnd (l : List Nat) (w : World) (e : Ending) (w' : World) : Prop :=
  ∃ a b c, e = .returned (.slice a l.length c) ∧ Ob w' a b l.length (l.map fun (t : Nat) => (t : Int)) ∧ w.heap.size ≤ b ∧ Below w.heap.size w w'

theorem cells1J {w : World} {b : Nat} {v0 : Value} {T : TypeId} (h : w.heap[b]? = some (.cells #[v0] T (0, 0))) : w.cell? ⟨b, 0, none⟩ = some v0 := by rw [cell_of_row w b 0 _ _ _ h]; rfl

theorem Try.info66J : (Try.prog.info? 66).map (fun i => (i.zero, i.size, i.bytes)) = some (some (.agg #[.int .i64 0, .int .i64 0, .int .i64 0]), 3, 24) := by kernel_rfl

set_option maxHeartbeats 4000000 in
theorem wayto_any (p : Int) (n BS mb G0 N B tgt : Nat) (aa : Option Addr) (ac : Nat) (ar : Arcs) (w : World) (h : w.ownsRow B 66 3 (.slice aa ar.length ac) ar.length (arcsL ar)) (hN : N ≤ 400) (hlen : ar.length ≤ 9600) (har : ∀ a ∈ ar, a.1 < N ∧ a.2.2 < N) (hto : tgt < N) (ht : TreeOk N ar) :
    Calls Try.prog 123 #[.agg (spV p n BS mb G0 N (.slice aa ar.length ac)), .int .i64 (tgt : Int)] w fun e w' => WyEnd (wayL ar tgt) w e w' := by
  have hN0 : 0 < N := by omega
  have HTR := hide ht
  have HTAB := hide (fun y => tabP_all hN0 (fun a ha => (har a ha).2) y)
  obtain ⟨f, hf⟩ : ∃ f, f = arcF N hN0 ar := ⟨_, rfl⟩
  rw [← hf] at HTAB
  have HARF := hide (show ∀ k, k < ar.length → (f k).1 = ar.getD k a0 from fun k hk => by rw [hf]; exact arcF_at hN0 (fun a ha => (har a ha).2) hk)
  clear hf
  obtain ⟨N2, hN2⟩ : ∃ n, Hid (ar.length = n) := ⟨_, rfl⟩
  rw [hN2.out] at h hlen HTAB HARF ⊢
  obtain ⟨av, hav⟩ : ∃ av, Value.slice aa N2 ac = av := ⟨_, rfl⟩
  obtain ⟨ga, hgl, hga⟩ : ∃ ga, ga ≤ w.heap.size ∧ Hid ((aa = none ∧ N2 = 0 ∧ ac = 0) ∨ (aa = some ⟨ga, 0, none⟩ ∧ ga < w.heap.size ∧ ∀ j, j < N2 → w.cell? ⟨ga, j * 3, none⟩ = some (.int .i64 ((f j).1.1 : Int)) ∧ w.cell? ⟨ga, j * 3 + 1, none⟩ = some (.int .i64 ((f j).1.2.1 : Int)) ∧ w.cell? ⟨ga, j * 3 + 2, none⟩ = some (.int .i64 ((f j).1.2.2 : Int)))) := by
    have hx := h
    rcases hx.2 with ⟨e, _⟩ | ⟨g, cap, cur, e, hb, hh, _⟩
    · simp only [Value.slice.injEq] at e
      obtain ⟨rfl, rfl, rfl⟩ := e
      exact ⟨w.heap.size, Nat.le_refl _, .inl ⟨rfl, rfl, rfl⟩⟩
    · simp only [Value.slice.injEq] at e
      obtain ⟨rfl, _, _⟩ := e
      have hgw := (Array.getElem?_eq_some_iff.mp hh).1
      refine ⟨g, by omega, .inr ⟨rfl, hgw, fun j hj => ?_⟩⟩
      obtain ⟨x, y, z, hxy, _⟩ := arc_get (show j < ar.length by rw [hN2.out]; exact hj)
      obtain ⟨g', e2, q0, q1, q2⟩ := arcs_at h hj hxy
      cases e2
      rw [HARF.out j hj, List.getD_eq_getElem?_getD, hxy]
      exact ⟨q0, q1, q2⟩
  have hAl := below_al w (.cells (spV p n BS mb G0 N av) 134)
  have HV0 := hide (heap_alloc_new w (.cells (spV p n BS mb G0 N av) 134))
  have HO0 := hide (ownsRow_kept h fun g hg => hAl.block g (own_lt h hg).2)
  have HB0 := hide hAl
  have hmk := run_make_many (P := Try.prog) 59 66 _ 3 24 Try.underlying59 Try.info66J .i64 .i64 N (by omega) (by omega)
  simp only [Value.cells] at hmk
  subst hav
  have hvs : Hid ((w.alloc (.cells (spV p n BS mb G0 N (.slice aa N2 ac)) 134)).heap.size = w.heap.size + 1) := by show _ = _; simp
  clear h hAl har ht
  refine callsIn_wide.1 (callsIn_of_wp_marks (n := 6) Try.func123 rfl trivial (wpIn_wide.2 ?_) rfl)
  simp only [Try.ntmps123, List.size_toArray, List.length_cons, List.length_nil, Nat.reduceAdd, Nat.reduceSub, Array.replicate_succ, Array.replicate_zero, List.push_toArray, List.append_toArray, List.nil_append, List.cons_append]
  go_upto_region 1 with fail
  generalize w.alloc (.cells (spV p n BS mb G0 N (.slice aa N2 ac)) 134) = v at *
  obtain ⟨⟨hc0, hc1, hc2, hc3, hc4⟩, _⟩ := cells5 HV0.out
  have HA1 := hide (ArcTab.made v N)
  have HB1 := hide (below_al v (.cells (madeCells #[.int .i64 0, .int .i64 0, .int .i64 0] (N * 3)) 66))
  go_upto_region 2 with fail
  have hA2 := below_al (v.alloc (.cells (madeCells #[.int .i64 0, .int .i64 0, .int .i64 0] (N * 3)) 66)) (.cells #[.slice (some ⟨v.heap.size, 0, none⟩) N N] 59)
  have hvs2 : Hid (((v.alloc (.cells (madeCells #[.int .i64 0, .int .i64 0, .int .i64 0] (N * 3)) 66)).alloc (.cells #[.slice (some ⟨v.heap.size, 0, none⟩) N N] 59)).heap.size = v.heap.size + 2) := by show _ = _; simp
  have HGB := hide (heap_alloc2_new v (.cells (madeCells #[.int .i64 0, .int .i64 0, .int .i64 0] (N * 3)) 66) (.cells #[.slice (some ⟨v.heap.size, 0, none⟩) N N] 59))
  have HA2 := hide (HA1.out.same (hA2.block _ HA1.out.lt))
  have HB2 := hide (HB1.out.trans (hA2.mono HB1.out.size))
  clear hA2 HA1 HB1 hmk hc0 hc1 hc2 hc3 hc4
  generalize (v.alloc (.cells (madeCells #[.int .i64 0, .int .i64 0, .int .i64 0] (N * 3)) 66)).alloc (.cells #[.slice (some ⟨v.heap.size, 0, none⟩) N N] 59) = v2 at *
  have HO2 := hide (ownsRow_kept HO0.out fun g hg => HB2.out.block g (own_lt HO0.out hg).2)
  have HBW2 := hide (HB0.out.trans (HB2.out.mono HB0.out.size))
  obtain ⟨⟨hc0, hc1, hc2, hc3, hc4⟩, _⟩ := cells5 (keep HV0.out HB2.out)
  have HBK := hide (back_any aa N2 ac v2)
  clear HO0 HB0 HB2
  go_wp2_with fail
  refine HBK.out.mono ?_
  rintro e w3 ⟨rfl, rfl⟩
  go_wp2_with fail
  refine (wpIn_wide (n := 6)).1 ?_
  have hA3 := below_al v2 (.cells #[.slice aa N2 ac] 59)
  have HBB := hide (heap_alloc_new v2 (.cells #[.slice aa N2 ac] 59))
  have hvs3 : Hid ((v2.alloc (.cells #[.slice aa N2 ac] 59)).heap.size = v2.heap.size + 1) := by show _ = _; simp
  have HA3 := hide (HA2.out.same (hA3.block _ HA2.out.lt))
  have HGB3 := hide (keep HGB.out hA3)
  have HO3 := hide (ownsRow_kept HO2.out fun g hg => hA3.block g (own_lt HO2.out hg).2)
  have HBW3 := hide (HBW2.out.trans (hA3.mono HBW2.out.size))
  clear hA3 HA2 HGB HO2 HBW2 HBK hc0 hc1 hc2 hc3 hc4 HV0
  generalize v2.alloc (.cells #[.slice aa N2 ac] 59) = v3 at *
  rw [hvs2.out] at HBB hvs3 ⊢
  clear hvs2
  generalize v.heap.size = q at *
  have hq1 : w.heap.size < q := by have := hvs.out; omega
  have hq2 : q ≤ w.heap.size + 1 := by have := hvs.out; omega
  have hz1 : q + 3 ≤ v3.heap.size := by have := hvs3.out; omega
  have hz2 : v3.heap.size ≤ q + 3 := by have := hvs3.out; omega
  refine wpIn_rangeFunc_ownH rfl (by decide) (gf := 181) (lb := #[.pointer (some ⟨q + 2, 0, none⟩)]) rfl trivial (enters_of Try.func181 (by kernel_rfl) rfl)
    (back_stops Fence.wide (6 - 1) trivial rfl (by decide) (q + 2) ga N2 ac N aa f hlen v3 (by omega) (by omega) (cells1J HBB.out) (hga.out.imp id fun h => ⟨h.1, fun j hj => ⟨(HBW3.out.cell (p := ⟨ga, j * 3, none⟩) h.2.1).trans (h.2.2 j hj).1, (HBW3.out.cell (p := ⟨ga, j * 3 + 1, none⟩) h.2.1).trans (h.2.2 j hj).2.1, (HBW3.out.cell (p := ⟨ga, j * 3 + 2, none⟩) h.2.1).trans (h.2.2 j hj).2.2⟩⟩))
    KpJ.trans (fun W l o o' hl _ _ _ => ⟨World.putObj_heap_other (by omega), World.putObj_heap_other (by omega)⟩) (Below.refl _ _) (fun _ => rfl)
    (fun pre W => (ArcTab W q N (tabP pre) ∧ Boxed W (q + 1) 59 (.slice (some ⟨q, 0, none⟩) N N)) ∧ (q + 3 ≤ W.heap.size ∧ Below w.heap.size w W))
    (fun _ _ _ => False)
    (OwnFrom.and (OwnFrom.and (arcTab_own _ _ _ _) (Own.from (boxed_own _ _ _) _)) (OwnFrom.and (fun _ _ _ _ hs hg _ => Nat.le_trans hs hg.size) (ownFrom_below (Nat.le_refl _) (by omega))))
    (fun _ _ _ _ _ hs _ _ => hs)
    ⟨⟨HA3.out, HGB3.out⟩, hz1, HBW3.out⟩
    (fun x a' W => ∃ Bx, q + 3 ≤ Bx ∧ W.heap[Bx]? = some (.cells #[.int .i64 (x.2.1.1 : Int), .int .i64 (x.2.1.2.1 : Int), .int .i64 (x.2.1.2.2 : Int)] 66 (0, 0)) ∧ a' = { tmps := #[.agg (spV p n BS mb G0 N (.slice aa N2 ac)), .int .i64 (tgt : Int), .pointer (some ⟨w.heap.size, 0, none⟩), undef, .slice none 0 0, .pointer (some ⟨q + 1, 0, none⟩), undef, .pointer (some ⟨Bx, 0, none⟩), undef, .pointer (some ⟨w.heap.size, 3, none⟩), .slice (some ⟨G0, 0, none⟩) N N, .int .i64 (N : Int), .slice (some ⟨q, 0, none⟩) N N, .pointer (some ⟨w.heap.size, 4, none⟩), .slice aa N2 ac, .func (.func 181) #[] #[.pointer (some ⟨q + 2, 0, none⟩)], .int .i64 (x.1 : Int), arcV x.2.1, undef, undef, undef, undef, undef, undef, undef, undef, undef, undef, undef, undef, undef, undef, undef, undef, undef, undef, undef, undef, undef, undef, undef], defers := [] })
    (fun x a' _ X Y row hs hg hr => by obtain ⟨Bx, h1, h2, h3⟩ := hs; exact ⟨Bx, h1, (heap_ownJ h2 hg fun r e => (hr r e).2).trans h2, h3⟩)
    ?assign ?body ?done ?stop
  case assign =>
    rintro l pre ⟨i, ⟨⟨u, b, z⟩, hz⟩⟩ W K ⟨⟨hT, hG⟩, hsz, hB⟩ hK
    have hTl := hT.lt
    have hsW := hG.lt
    have hAW := below_al W (.cells #[.int .i64 (u : Int), .int .i64 (b : Int), .int .i64 (z : Int)] 66)
    have HKK := hide (hK _ _ ((KeepsOthers.alloc W (.cells #[.int .i64 (u : Int), .int .i64 (b : Int), .int .i64 (z : Int)] 66)).from _) ⟨hAW.block _ (by omega), hAW.block _ (by omega)⟩ ⟨⟨hT.same (hAW.block _ hTl), hG.alloc _⟩, Nat.le_trans hsz hAW.size, hB.trans (hAW.mono hB.size)⟩ ⟨W.heap.size, hsz, heap_alloc_new W _, rfl⟩)
    clear hK hAW
    simp only [arcV] at HKK ⊢
    gi_wp2
    exact HKK.out
  case body =>
    rintro l pre ⟨i, ⟨⟨u, b, z⟩, hz⟩⟩ a' W hl ⟨r, hr⟩ ⟨⟨hT, hG⟩, hsz, hB⟩ ⟨Bx, hBx, bX, rfl⟩ hlt
    have hz' : z < N := hz
    obtain ⟨p0, p1, p2, f0, f1, f2⟩ := hT.at hz'
    obtain ⟨hc0, hc1, hc2⟩ := cells3J bX
    have cG := hG.cell
    have hqB : w.heap.size ≤ q := by omega
    have HT := hide ((hT.set hz' (u, b, z)).ext (t' := tabP (pre ++ [(i, ⟨(u, b, z), hz⟩)])) fun y _ => tabP_snoc pre (i, ⟨(u, b, z), hz⟩) y)
    have HE := hide (show KeepsFrom v3.heap.size W (W.setCells q (z * 3) [.int .i64 (u : Int), .int .i64 (b : Int), .int .i64 (z : Int)]) ∧ KpJ (q + 2) ga W (W.setCells q (z * 3) [.int .i64 (u : Int), .int .i64 (b : Int), .int .i64 (z : Int)]) ∧ (ArcTab (W.setCells q (z * 3) [.int .i64 (u : Int), .int .i64 (b : Int), .int .i64 (z : Int)]) q N (tabP (pre ++ [(i, ⟨(u, b, z), hz⟩)])) ∧ Boxed (W.setCells q (z * 3) [.int .i64 (u : Int), .int .i64 (b : Int), .int .i64 (z : Int)]) (q + 1) 59 (.slice (some ⟨q, 0, none⟩) N N)) ∧ q + 3 ≤ (W.setCells q (z * 3) [.int .i64 (u : Int), .int .i64 (b : Int), .int .i64 (z : Int)]).heap.size ∧ Below w.heap.size w (W.setCells q (z * 3) [.int .i64 (u : Int), .int .i64 (b : Int), .int .i64 (z : Int)]) from
      ⟨(keepsOthers_set3 W q (z * 3) _ _ _).from _, ⟨heap_set3_other W q (z * 3) (q + 2) _ _ _ (by omega), heap_set3_other W q (z * 3) ga _ _ _ (by omega)⟩, ⟨HT.out, (heap_set3_other W q (z * 3) (q + 1) _ _ _ (by omega)).trans hG⟩, by rw [size_set3]; exact hsz, below_set3 hB hqB _ _ _ _⟩)
    clear HT hB hT hG
    simp only [arcV]
    gi_wp2
    exact HE.out
  case done =>
    rintro D ys W hD rfl ⟨⟨hT, hG⟩, hsz, hB⟩ hK
    have HT := hide (hT.ext fun y _ => (HTAB.out y).symm)
    have HG := hide hG
    have HBW := hide hB
    have HK := hide hK
    have hDW : D < W.heap.size := (Array.getElem?_eq_some_iff.mp hK).1
    clear hT hG hB hK HA3 HGB3 HBW3 HBB HO3 HTAB HARF hga hvs hvs3
    go_wp2_with fail
    go_loopw [1, 8] (fun i vv wr => ∃ (y : Nat) (U : List Nat), y < N ∧ i = .int .i64 (y : Int) ∧ Hid (wayL ar tgt = wayL ar y ++ U.reverse) ∧ Hid (wr.ownsRow W.heap.size 3 1 vv U.length (U.map fun (t : Nat) => Value.int .i64 (t : Int))) ∧ Hid (Below W.heap.size W wr)) (fun i _ _ => (intOf i).toNat)
    case atStart => exact ⟨tgt, [], hto, rfl, by show _ = _; simp, ⟨rfl, .inl ⟨rfl, rfl⟩⟩, Below.refl _ _⟩
    case round =>
      obtain ⟨y, U, hy, rfl, hw, ho, hbw⟩ := hrel
      have hyc : (0 : Int) ≤ (y : Int) := by omega
      have hUl : U.length ≤ 400 := by
        have h1 := congrArg List.length hw.out
        have h2 := wayL_len ar tgt tgt
        simp only [List.length_append, List.length_reverse] at h1
        unfold wayL at h1
        omega
      by_cases hy0 : y = 0
      · subst hy0
        have e5 : (U.map fun (t : Nat) => Value.int .i64 (t : Int)) = ((U.map fun (t : Nat) => (t : Int)).map (Value.int .i64)) := by rw [List.map_map]; rfl
        have ho2 := ho.out
        rw [e5] at ho2
        obtain ⟨wa, wb, wc, rfl, hwb, hob⟩ := own_ob ho2
        have hwl : wayL ar tgt = U.reverse := by rw [hw.out, wayL_zero]; rfl
        have hDb : D < wb := by omega
        have HE := hide (fun W' (hO : Ob W' wa wb U.length (U.map fun (t : Nat) => (t : Int)).reverse) (hb : Below w.heap.size w W') => show WyEnd (wayL ar tgt) w (.returned (.slice wa U.length wc)) W' by
          rw [hwl]
          exact ⟨wa, wb, wc, by rw [List.length_reverse], by rw [List.length_reverse, List.map_reverse]; exact hO, by omega, hb⟩)
        have HRV := hide (revO_any wa wb U.length wc W.heap.size _ wr hob (by omega) hwb)
        have HBR := hide (HBW.out.trans (hbw.out.mono HBW.out.size))
        have HKR := hide ((hbw.out.block D hDW).trans HK.out)
        clear ho ho2 hob hwl hw HT HG e5 hbw
        go_wp2_with fail
        refine HRV.out.mono ?_
        rintro e w5 ⟨⟨v5, rfl⟩, ho5, hb5⟩
        have hK5 := (hb5.block D hDW).trans HKR.out
        have HB5 := hide (HBR.out.trans (hb5.mono HBW.out.size))
        have hHE := hide (HE.out (w5.putObj D (.deferred none)) (Ob.movedJ ho5 (World.putObj_heap_other (by omega))) (HB5.out.trans (belowK_b (w := w) (Nat.le_refl _) w5 D _ _ (by omega) hK5 rfl rfl)))
        clear HE ho5 hb5
        go_wp2_with fail
        refine ⟨by simp, .inl ⟨_, _, rfl, run_takeDeferred hK5, ?_⟩⟩
        refine ⟨_, results_tmp (show Try.f123.results = #[.tmp 4] from rfl) _ _ _, ?_⟩
        exact hHE.out
      have hy1 : (0 : Int) < (y : Int) := by omega
      have hyN : (y : Int) < (N : Int) := by omega
      have hqW : q < W.heap.size := by omega
      have hq1W : q + 1 < W.heap.size := by omega
      obtain ⟨_, _, hpy, hpN⟩ := HTR.out.fi (Nat.pos_of_ne_zero hy0) hy
      have hup := HTR.out.way_up (Nat.pos_of_ne_zero hy0) hy
      have HT1 := hide (HT.out.same (hbw.out.block q hqW))
      have HG1 := hide (show Boxed wr (q + 1) 59 (.slice (some ⟨q, 0, none⟩) N N) from (hbw.out.block (q + 1) hq1W).trans HG.out)
      obtain ⟨pu, hpu⟩ : ∃ t, Hid (parA ar y = t) := ⟨_, rfl⟩
      obtain ⟨bb, hbb⟩ : ∃ t, Hid (byA ar y = t) := ⟨_, rfl⟩
      rw [hpu.out] at hpy hpN hup
      rw [hbb.out] at hup
      have HNEW : Hid (wayL ar tgt = wayL ar pu ++ (U ++ [bb]).reverse) := by
        show _ = _
        rw [hw.out, hup]; simp
      obtain ⟨i0, hi, hz0, hz1', hz2'⟩ := info_split Try.info3
      have hA := below_al wr (.cells #[.int .i64 (bb : Int)] 3)
      have HO3 := hide (own_growJ ho.out hA)
      have HB3 := hide (hbw.out.trans (hA.mono hbw.out.size))
      have HCE : Hid (∀ j v, ([.int .i64 (bb : Int)] : List Value)[j]? = some v → (wr.alloc (.cells #[.int .i64 (bb : Int)] 3)).cell? ((⟨wr.heap.size, 0, none⟩ : Addr).add j) = some v) := one_cell wr _
      have H1c : Hid (∀ v ∈ ([.int .i64 (bb : Int)] : List Value), v.oneCell' = true) := fun v hv => by simp at hv; subst hv; rfl
      have HT3 := hide (HT1.out.same (hA.block _ HT1.out.lt))
      have HG3 := hide (HG1.out.alloc (.cells #[.int .i64 (bb : Int)] 3))
      obtain ⟨wl, hwl2⟩ : ∃ n, Hid (U.length = n) := ⟨_, rfl⟩
      rw [hwl2.out] at HO3 hUl
      have HX := hide (show wl + 1 ≤ maxLen by unfold maxLen; omega)
      have HY := hide (show (wl + 1) * 8 ≤ 140737488355328 by omega)
      have HZ := hide HB3.out.size
      obtain ⟨tc0, tc1, tc2, tf0, tf1, tf2⟩ := HT1.out.at hy
      have e0 : ((mbA ar y).1 : Int) = (pu : Int) := by rw [← hpu.out]; rfl
      have e1 : ((mbA ar y).2.1 : Int) = (bb : Int) := by rw [← hbb.out]; rfl
      rw [e0] at tc0
      rw [e1] at tc1
      have HE0 := hide e0
      have HE1 := hide e1
      have cG := HG1.out.cell
      clear hup hA hw ho hbw e0 e1 tc2 tf0 tf1 tf2
      go_wp2_with (refine wpList_append_own _ rfl (.tmp 25) (.tmp 31) 31 rfl W.heap.size 3 i0 (.int .i64 0) 1 8 Try.underlying31 hi hz0 hz1' hz2' rfl (by decide) _ wl _ rfl HO3.out ⟨_, 0, none⟩ 1 1 [.int .i64 (bb : Int)] rfl rfl HCE.out H1c.out HX.out HY.out HZ.out ?_; intro v' W' r1 r2 r3; obtain ⟨uc0, uc1, uc2, uf0, uf1, uf2⟩ := (HT3.out.otherJ HO3.out r2).at hy; rw [HE0.out] at uc0; have cG2 := Boxed.cell (own_otherJ HO3.out r2 HG3.out (by decide)))
      have HR1 : Hid (W'.ownsRow W.heap.size 3 1 v' (U ++ [bb]).length ((U ++ [bb]).map fun (t : Nat) => Value.int .i64 (t : Int))) := by
        show World.ownsRow _ _ _ _ _ _ _
        rw [List.length_append, hwl2.out, List.map_append]; exact r1
      have HBG : Hid (Below W.heap.size (wr.alloc (.cells #[.int .i64 (bb : Int)] 3)) W') := by
        rcases own_belowJ HO3.out r2 with h | h
        · exact h
        · have := HZ.out; omega
      have HB4 := hide (HB3.out.trans HBG.out)
      clear r1 r2 r3
      go_roundw
      case rel => exact ⟨pu, U ++ [bb], hpN, rfl, HNEW, HR1, HB4⟩
      case measure => simpa [intOf] using hpy
  case stop =>
    rintro D c pre W _ _ h _
    exact h.elim
end Go.Proofs.Ytdhnhpjcoeglmaa


/- The program's WayTo. -/
namespace Go.Proofs.Ytdhnhpjcoeglmaa
open Go.RowKit
set_option maxRecDepth 10000

theorem mem_good {p : Int} {n : Nat} {L : List (List Int)} {ys xs : List Int} {bg : Int} (hc : spCode p n L ys bg = 1) (hx : xs ∈ (spSea p n L ys bg).ms) : goodB p xs = true := by
  have ha : askB p n L ys bg = true := by
    cases h : askB p n L ys bg with
    | true => rfl
    | false => unfold spCode at hc; rw [h] at hc; simp at hc
  unfold askB at ha
  simp only [Bool.and_eq_true] at ha
  have hb : 1 ≤ bg.toNat := by have := ha.2; simp [inB] at this; omega
  unfold spSea at hx
  cases hs : searchS p n L bg.toNat ys with
  | error c => rw [hs] at hx; simp [endS] at hx
  | ok s =>
    rw [hs] at hx
    exact (seaS_ok (SeaOk.start (n := n) hb ha.1.2) hs).1.good xs hx

theorem wtOk_sa {p : Int} {n : Nat} {L : List (List Int)} {ys xs : List Int} {bg : Int} (h : saOk p n L ys bg xs = false) : wtOk p n L ys bg xs = false := by
  unfold wtOk
  by_cases hc : spCode p n L ys bg = 1
  · by_cases hx : xs ∈ (spSea p n L ys bg).ms
    · unfold saOk at h; rw [mem_good hc hx, hc] at h; simp at h
    · simp [hx]
  · simp [hc]

theorem wtEndI_no {p : Int} {n : Nat} {L : List (List Int)} {ys xs : List Int} {bg : Int} {w w' : World} (h : wtOk p n L ys bg xs = false) (hb : Below w.heap.size w w') : OEnd (wtOk p n L ys bg xs) (wtR p n L ys bg xs) w (.returned (.tuple #[.slice none 0 0, .bool false])) w' := by
  refine ⟨none, w.heap.size, 0, 0, by rw [h], ⟨?_, .inl rfl⟩, Nat.le_refl _, hb⟩
  unfold wtR; rw [h]; rfl

theorem wtEndI_yes {p : Int} {n : Nat} {L : List (List Int)} {ys xs : List Int} {bg : Int} {a : Option Addr} {b m c : Nat} {w w' : World} (h : wtOk p n L ys bg xs = true) (ho : Ob w' a b m ((wtW p n L ys bg xs).map fun (t : Nat) => (t : Int))) (hB : w.heap.size ≤ b) (hb : Below w.heap.size w w') : OEnd (wtOk p n L ys bg xs) (wtR p n L ys bg xs) w (.returned (.tuple #[.slice a m c, .bool true])) w' := by
  refine ⟨a, b, m, c, by rw [h], ?_, hB, hb⟩
  unfold wtR; rw [if_pos h]; exact ho

set_option maxHeartbeats 4000000 in
theorem waytoI_any (p : Int) (a am ax : Option Addr) (n c nm cm nx cx : Nat) (L : List (List Int)) (ys xs : List Int) (bg : Int) (w : World) (h : Lists w a (3 * n) L) (rm : Row w am nm ys) (rx : Row w ax nx xs) (hs : sizeN n L ≤ 1048576) (hnm : nm ≤ 1048576) (hnx : nx ≤ 1048576) :
    Calls Try.prog 51 #[.agg #[.int .i64 p, .slice a n c], .slice am nm cm, .int .i64 bg, .slice ax nx cx] w fun e w' => OEnd (wtOk p n L ys bg xs) (wtR p n L ys bg xs) w e w' := by
  have hAl := below_al w (.cells #[.int .i64 p, .slice a n c] 26)
  have HX := hide (spaceTok_any p a am ax n c nm cm nx cx L ys xs bg _ (h.below hAl) (rm.below hAl) (rx.below hAl) hs hnm hnx)
  have HLX := hide rx.1
  have HB0 := hide hAl
  clear h rm rx hAl
  go_enter Try.func51, Try.ntmps51
  go_wp2_with fail
  generalize w.alloc (.cells #[.int .i64 p, .slice a n c] 26) = v0 at *
  refine HX.out.mono ?_
  rintro e w1 ⟨hb1, hxx⟩
  have HB1 := hide (HB0.out.trans (hb1.mono HB0.out.size))
  clear hb1 HB0 HX
  obtain ⟨sv, hsv⟩ : ∃ sv, sv = spZ := ⟨_, rfl⟩
  have hA3 := (below_al w1 (.cells spZ 134)).trans ((below_al (w1.alloc (.cells spZ 134)) (.cells #[.int .u8 0, .int .u8 0, .int .u8 0, .int .u8 0, .int .u8 0, .int .u8 0, .int .u8 0, .int .u8 0, .int .u8 0, .int .u8 0, .int .u8 0, .int .u8 0, .int .u8 0, .int .u8 0, .int .u8 0, .int .u8 0] 93)).mono (by simp))
  have hg0 := keep (heap_alloc_new w1 (.cells spZ 134)) (below_al (w1.alloc (.cells spZ 134)) (.cells #[.int .u8 0, .int .u8 0, .int .u8 0, .int .u8 0, .int .u8 0, .int .u8 0, .int .u8 0, .int .u8 0, .int .u8 0, .int .u8 0, .int .u8 0, .int .u8 0, .int .u8 0, .int .u8 0, .int .u8 0, .int .u8 0] 93))
  have hg1 := heap_alloc2_new w1 (.cells spZ 134) (.cells #[.int .u8 0, .int .u8 0, .int .u8 0, .int .u8 0, .int .u8 0, .int .u8 0, .int .u8 0, .int .u8 0, .int .u8 0, .int .u8 0, .int .u8 0, .int .u8 0, .int .u8 0, .int .u8 0, .int .u8 0, .int .u8 0] 93)
  rcases hxx with ⟨hso, s, B, BS, mb, G, aa, ac, hok, hst, rfl⟩ | ⟨hso, k, rfl⟩
  rotate_left
  · have hg1s := (setRow_otherW _ (show w1.heap.size + 1 ≠ w1.heap.size by omega) spZ).trans hg1
    have HN := hide (wtEndI_no (w := w) (wtOk_sa hso) (below_setRow (below_setRow (HB1.out.trans (hA3.mono HB1.out.size)) w1.heap.size HB1.out.size spZ) (w1.heap.size + 1) (by have := HB1.out.size; omega) (packOf xs k)))
    clear hso hA3
    go_wp2_with (first
      | ((show wpList _ _ _ (⟨none, .store 134 (.tmp 10) (.tmp 21), _, _, _, _⟩ :: _) _ _); refine wpList_store_row rfl 134 _ _ rfl _ _ rfl rfl 134 _ hg0 Try.size134 rfl spZ_one ?_)
      | ((show wpList _ _ _ (⟨none, .store 93 (.tmp 11) (.tmp 22), _, _, _, _⟩ :: _) _ _); refine wpList_store_row rfl 93 _ _ rfl _ _ rfl rfl 93 _ hg1s (by rw [packOf_size]; exact Try.size93) (by rw [packOf_size]; rfl) (packOf_one _ _) ?_))
    go_ret2
    exact HN.out
  obtain ⟨hcode, hgx⟩ := saOk_parts hso
  have hlx : xs.length = nx := HLX.out
  have hlp := (goodB_parts hgx).2.1
  have hnn : nx = nm := by have := hok.hl; omega
  have hg1s := (setRow_otherW _ (show w1.heap.size + 1 ≠ w1.heap.size by omega) (spV p n BS mb G s.ms.length (.slice aa s.ar.length ac))).trans hg1
  have hV := below_setRow (below_setRow hA3 w1.heap.size (Nat.le_refl _) (spV p n BS mb G s.ms.length (.slice aa s.ar.length ac))) (w1.heap.size + 1) (Nat.le_succ _) (packOf xs nx)
  have HB3 := hide (HB1.out.trans (hV.mono HB1.out.size))
  have hstV := hst.grow hV
  have HMAP := hide hstV.map
  have HARC := hide hstV.arcs
  have hz1 := setRow_same hg0 (spV p n BS mb G s.ms.length (.slice aa s.ar.length ac))
  have HV3 := hide ((setRow_otherW _ (show w1.heap.size ≠ w1.heap.size + 1 by omega) (packOf xs nx)).trans hz1)
  have hv3 := HV3.out
  have hg11 := setRow_same hg1s (packOf xs nx)
  have hlk := run_lookTok (l := nm) (m := xs) hok.l16 (by omega) hok.lens HMAP.out true
  rw [if_pos rfl] at hlk
  obtain ⟨⟨hc0, hc1, hc2, hc3, hc4⟩, _⟩ := cells5 HV3.out
  have hN400 := hok.m4
  have htree : TreeOk s.ms.length s.ar := searchS_tree hok.sea
  have HWT := hide (fun (W : World) (hA : W.ownsRow B 66 3 (.slice aa s.ar.length ac) s.ar.length (arcsL s.ar)) (hin : xs ∈ s.ms) => wayto_any p n BS mb G s.ms.length B (s.ms.idxOf xs) aa ac s.ar W hA hN400 hok.len (fun x hx => ⟨(hok.ok.arc x hx).1, (hok.ok.arc x hx).2.2⟩) (List.idxOf_lt_length_of_mem hin) htree)
  have HSEA : Hid (spSea p n L ys bg = s) := hok.is
  subst hnn
  clear hA3 hV hst hstV HB1 hgx hlx hlp hok hz1 htree
  by_cases hin : xs ∈ s.ms
  rotate_left
  · have HN := hide (fun W (hW : Below w.heap.size w W) => wtEndI_no (w := w) (show wtOk p n L ys bg xs = false by unfold wtOk; rw [HSEA.out]; simp [hin]) hW)
    rw [if_neg hin, decide_eq_false hin] at hlk
    clear hcode hso HWT
    go_wp2_with (first
      | ((show wpList _ _ _ (⟨none, .store 134 (.tmp 10) (.tmp 21), _, _, _, _⟩ :: _) _ _); refine wpList_store_row rfl 134 _ _ rfl _ _ rfl rfl 134 _ hg0 Try.size134 rfl (spV_one _ _ _ _ _ _ _ _ _) ?_)
      | ((show wpList _ _ _ (⟨none, .store 93 (.tmp 11) (.tmp 22), _, _, _, _⟩ :: _) _ _); refine wpList_store_row rfl 93 _ _ rfl _ _ rfl rfl 93 _ hg1s (by rw [packOf_size]; exact Try.size93) (by rw [packOf_size]; rfl) (packOf_one _ _) ?_)
      | ((show wpList _ _ _ (⟨some 29, .load 93 (.tmp 11), _, _, _, _⟩ :: _) _ _); refine wpList_load_row rfl 93 (.tmp 11) rfl _ rfl 93 (packOf xs nx) (0, 0) _ hg11 Try.underlying93 rfl (by rw [packOf_size]; exact Try.size93) ?_)
      | ((show wpList _ _ _ (⟨some 30, .lookup 131 (.tmp 28) (.tmp 29) true, _, _, _, _⟩ :: _) _ _); refine wpList_lookQ rfl 131 (.tmp 28) (.tmp 29) true rfl _ _ _ rfl rfl hlk ?_))
    go_ret2
    exact HN.out _ HB3.out
  have hwW : Hid (wtW p n L ys bg xs = wayL s.ar (s.ms.idxOf xs)) := by show _ = _; unfold wtW; rw [HSEA.out]
  have HOK : Hid (wtOk p n L ys bg xs = decide ((wayL s.ar (s.ms.idxOf xs)).length ≤ 60)) := by
    show _ = _
    unfold wtOk
    rw [hwW.out, HSEA.out, hcode]; simp [hin]
  have HWT2 := hide (HWT.out _ HARC.out hin)
  rw [if_pos hin, decide_eq_true hin] at hlk
  obtain ⟨ix, hix⟩ : ∃ ix, Hid (s.ms.idxOf xs = ix) := ⟨_, rfl⟩
  rw [hix.out] at HWT2 hlk hwW HOK
  have HNO := hide (fun W (hW : Below w.heap.size w W) (hl : ¬ (wayL s.ar ix).length ≤ 60) => wtEndI_no (w := w) (p := p) (n := n) (L := L) (ys := ys) (xs := xs) (bg := bg) (by rw [HOK.out]; simp [hl]) hW)
  have HYES := hide (fun W (a : Option Addr) (b m c : Nat) (ho : Ob W a b m ((wayL s.ar ix).map fun (t : Nat) => (t : Int))) (hB : w.heap.size ≤ b) (hW : Below w.heap.size w W) (hl : (wayL s.ar ix).length ≤ 60) => wtEndI_yes (w := w) (p := p) (n := n) (L := L) (ys := ys) (xs := xs) (bg := bg) (c := c) (by rw [HOK.out]; simp [hl]) (by rw [hwW.out]; exact ho) hB hW)
  clear hcode hso HWT HARC HMAP hwW HOK hin hix HSEA
  generalize wayL s.ar ix = wl at *
  go_wp2_with (first
    | ((show wpList _ _ _ (⟨none, .store 134 (.tmp 10) (.tmp 21), _, _, _, _⟩ :: _) _ _); refine wpList_store_row rfl 134 _ _ rfl _ _ rfl rfl 134 _ hg0 Try.size134 rfl (spV_one _ _ _ _ _ _ _ _ _) ?_)
    | ((show wpList _ _ _ (⟨none, .store 93 (.tmp 11) (.tmp 22), _, _, _, _⟩ :: _) _ _); refine wpList_store_row rfl 93 _ _ rfl _ _ rfl rfl 93 _ hg1s (by rw [packOf_size]; exact Try.size93) (by rw [packOf_size]; rfl) (packOf_one _ _) ?_)
    | ((show wpList _ _ _ (⟨some 29, .load 93 (.tmp 11), _, _, _, _⟩ :: _) _ _); refine wpList_load_row rfl 93 (.tmp 11) rfl _ rfl 93 (packOf xs nx) (0, 0) _ hg11 Try.underlying93 rfl (by rw [packOf_size]; exact Try.size93) ?_)
    | ((show wpList _ _ _ (⟨some 30, .lookup 131 (.tmp 28) (.tmp 29) true, _, _, _, _⟩ :: _) _ _); refine wpList_lookQ rfl 131 (.tmp 28) (.tmp 29) true rfl _ _ _ rfl rfl hlk ?_)
    | ((show wpList _ _ _ (⟨some 35, .load 134 (.tmp 10), _, _, _, _⟩ :: _) _ _); refine wpList_load_row rfl 134 (.tmp 10) rfl _ rfl 134 (spV p n BS mb G s.ms.length (.slice aa s.ar.length ac)) (0, 0) _ hv3 Try.underlying134 rfl Try.size134 ?_))
  refine HWT2.out.mono ?_
  rintro e w5 ⟨va, vb, vc, rfl, ho5, hB5, hb5⟩
  have HB5 := hide (HB3.out.trans (hb5.mono HB3.out.size))
  have HBv := hide (Nat.le_trans HB3.out.size hB5)
  have HO5 := hide ho5
  clear ho5 hB5 hb5 HB3 HWT2 hg0 hg1 hg1s hg11 hv3 HV3 hc0 hc1 hc2 hc3 hc4 hlk
  go_wp2_with fail
  · rename_i hgt
    go_ret2
    exact HNO.out _ HB5.out (by omega)
  rename_i hle
  go_ret2
  exact HYES.out _ _ _ _ _ HO5.out HBv.out HB5.out (by omega)
end Go.Proofs.Ytdhnhpjcoeglmaa
