/- Contracts that the proof stands on, one behind the other. -/
import Derived.Test.YtdhnhpjcoeglmaaP13
/- The specification's l4To: which marks can come to one of some. -/
namespace Go.Proofs.Ytdhnhpjcoeglmaa
open Go.RowKit
set_option maxRecDepth 10000

/-- How many truths of block F are told, as memory has it. -/
def cntW4 (w : World) (F N : Nat) : Nat := cntT (fun i => match w.cell? ⟨F, i, none⟩ with | some (.bool b) => b | _ => false) N

theorem cntT_congr {f g : Nat → Bool} : ∀ {N : Nat}, (∀ i, i < N → f i = g i) → cntT f N = cntT g N := by
  intro N
  induction N with
  | zero => intro _; rfl
  | succ N ih => intro h; rw [cntT_succ, cntT_succ, ih fun i hi => h i (by omega), h N (by omega)]

theorem BRow.cnt {w : World} {F N : Nat} {f : Nat → Bool} (h : BRow w F N f) : cntW4 w F N = cntT f N := by
  unfold cntW4
  exact cntT_congr fun i hi => by rw [(h.cell hi).1]

theorem mem_take_upd {cs : List Nat} {k x : Nat} (hx : cs[k]? = some x) (t : Nat) : decide (t ∈ cs.take (k + 1)) = (decide (t ∈ cs.take k) || x == t) := by
  rw [List.take_add_one, hx]
  by_cases h2 : x = t
  · subst h2; simp
  · have h3 : ¬ t = x := fun e => h2 e.symm
    by_cases h1 : t ∈ cs.take k <;> simp [h1, h2, h3]

/-- What the pass over the arcs keeps. -/
structure ToIn (ar : List (Nat × Nat × Nat)) (G : Nat → Prop) (N k : Nat) (f0 f : Nat → Bool) (b : Bool) : Prop where
  good : ∀ i, G i → f i = true
  can : ∀ i, f i = true → CanTo ar G i
  no : b = false → f = f0 ∧ ∀ a ∈ ar.take k, f a.2.2 = true → f a.1 = true
  yes : b = true → cntT f0 N < cntT f N
  le : cntT f0 N ≤ cntT f N

theorem ToIn.skip {ar : List (Nat × Nat × Nat)} {G : Nat → Prop} {N k : Nat} {f0 f : Nat → Bool} {b : Bool} (h : ToIn ar G N k f0 f b) {x y z : Nat} (ha : ar[k]? = some (x, y, z)) (hs : f z = true → f x = true) : ToIn ar G N (k + 1) f0 f b := by
  refine ⟨h.good, h.can, fun e => ⟨(h.no e).1, fun a hm hz => ?_⟩, h.yes, h.le⟩
  rw [List.take_add_one, ha] at hm
  rcases List.mem_append.1 hm with h1 | h1
  · exact (h.no e).2 a h1 hz
  · simp at h1; rw [h1] at hz ⊢; exact hs hz

theorem ToIn.put {ar : List (Nat × Nat × Nat)} {G : Nat → Prop} {N k : Nat} {f0 f : Nat → Bool} {b : Bool} (h : ToIn ar G N k f0 f b) {x y z : Nat} (ha : ar[k]? = some (x, y, z)) (hz : f z = true) (hx : f x = false) (hN : x < N) : ToIn ar G N (k + 1) f0 (updT f x) true := by
  have hc := cntT_upd hx N
  rw [if_pos hN] at hc
  refine ⟨fun i hi => updT_old (h.good i hi), fun i hi => ?_, fun e => by simp at e, fun _ => by have := h.le; omega, by have := h.le; omega⟩
  rcases updT_of hi with e | e
  · exact h.can i e
  · rw [e]; exact .step (List.mem_of_getElem? ha) (h.can z hz)

set_option maxHeartbeats 2000000 in
theorem l4To_any (ma aa ca : Option Addr) (N mc ac nc cc B : Nat) (cs : List Nat) (ar : List (Nat × Nat × Nat)) (w : World) (h : w.ownsRow B 66 3 (.slice aa ar.length ac) ar.length (arcsL ar)) (hN : N ≤ 400) (hlen : ar.length ≤ 9600)
    (har : ∀ a ∈ ar, a.1 < N ∧ a.2.2 < N) (rc : Row w ca nc (cs.map fun (x : Nat) => (x : Int))) (hnc : nc ≤ 1048576) (hcs : ∀ x ∈ cs, x < N) :
    Calls Try.prog 164 #[.agg #[.slice ma N mc, .slice aa ar.length ac], .slice ca nc cc] w fun e w' => ∃ F f, e = .returned (.slice (some ⟨F, 0, none⟩) N N) ∧ w.heap.size ≤ F ∧ BRow w' F N f ∧ (∀ i, f i = true ↔ CanTo ar (fun x => x ∈ cs) i) ∧ Below w.heap.size w w' := by
  have hmk := run_make_many (P := Try.prog) 126 4 (.bool false) 1 1 Try.underlying126 Try.info4 .i64 .i64 N (by omega) (by omega)
  obtain ⟨N2, hN2⟩ : ∃ n, Hid (ar.length = n) := ⟨_, rfl⟩
  have HAR := hide har
  have HCS := hide hcs
  rw [hN2.out] at h hlen ⊢
  have hAl := below_al w (.cells #[.slice ma N mc, .slice aa N2 ac] 61)
  have HS0 := hide (heap_alloc_new w (.cells #[.slice ma N mc, .slice aa N2 ac] 61))
  have HO0 := hide (ownsRow_kept h fun g hg => hAl.block g (own_lt h hg).2)
  have HC0 := hide (rc.below hAl)
  have HB0 := hide hAl
  have hcl : cs.length = nc := by have := rc.1; simpa using this
  clear h rc hAl har hcs
  go_enter Try.func164, Try.ntmps164
  go_upto_region 1 with fail
  generalize w.alloc (.cells #[.slice ma N mc, .slice aa N2 ac] 61) = v at *
  obtain ⟨hc0, hc1⟩ := cells2 HS0.out
  go_upto_region 2 with fail
  clear hmk hc0 hc1
  have HBR := hide (BRow.made v N)
  have HB1 := hide (below_al v (.cells (madeCells #[.bool false] N) 4))
  generalize v.alloc (.cells (madeCells #[.bool false] N) 4) = v1 at *
  have hvs := HB0.out.size
  go_wp2_with fail
  go_loopw [17] (fun i wr => ∃ k : Nat, k ≤ nc ∧ i = .int .i64 k ∧ Hid (Below v.heap.size v wr ∧ BRow wr v.heap.size N (fun t => decide (t ∈ cs.take k)))) (fun i _ => nc - (intOf i).toNat)
  case atStart => exact ⟨0, Nat.zero_le _, rfl, HB1.out, by simpa using HBR.out⟩
  case round =>
    obtain ⟨k, hk, rfl, hbr⟩ := hrel
    by_cases hlt : k < nc
    · obtain ⟨x, hx⟩ : ∃ x, cs[k]? = some x := ⟨_, List.getElem?_eq_getElem (by omega)⟩
      have hxN := HCS.out x (List.mem_of_getElem? hx)
      obtain ⟨b1, o1, y, rfl, hb1, hy1, H1⟩ := (HC0.out.below hbr.out.1).at hlt
      have hyx : y = (x : Int) := by
        have := H1.out
        rw [List.getElem?_map, hx] at this
        simpa using this.symm
      subst hyx
      have HR := hide (hbr.out.2.set hxN (mem_take_upd hx))
      have HB := hide (hbr.out.1.setCell (p := ⟨v.heap.size, x, none⟩) (Nat.le_refl _) (.bool true))
      obtain ⟨hr0, hr1⟩ := hbr.out.2.cell hxN
      have hxi : (x : Int) < (N : Int) := by omega
      have hx0 : (0 : Int) ≤ (x : Int) := by omega
      clear H1 hbr hx
      go_wp2_with fail
      go_roundw
      case rel => exact ⟨k + 1, by omega, by go_num, HB.out, HR.out⟩
      case measure => simp [intOf]; omega
    · have hk' : k = nc := by omega
      have HBB : Hid (BRow wr v.heap.size N (fun t => decide (t ∈ cs))) := by have := hbr.out.2; rwa [hk', ← hcl, List.take_length] at this
      have HBW := hide hbr.out.1
      clear hbr hk
      subst hk'
      have hlt' : ¬ (k : Int) < (k : Int) := by omega
      go_wp2_with fail
      go_loopw [8] (fun fl wq => ∃ b f, fl = .bool b ∧ Hid (Below v.heap.size v wq ∧ BRow wq v.heap.size N f) ∧ Hid (ToIn ar (fun x => x ∈ cs) N ar.length f f false ∨ (b = true ∧ (∀ i, i ∈ cs → f i = true) ∧ ∀ i, f i = true → CanTo ar (fun x => x ∈ cs) i))) (fun fl wq => 2 * (N - cntW4 wq v.heap.size N) + (match fl with | .bool true => 1 | _ => 0))
      case atStart => exact ⟨true, _, rfl, ⟨HBW.out, HBB.out⟩, .inr ⟨rfl, fun i hi => by simpa using hi, fun i hi => .at_ (by simpa using hi)⟩⟩
      case round =>
        obtain ⟨b, f, rfl, hbf, hin⟩ := hrel
        have HQ := hide (show (∀ i, i ∈ cs → f i = true) ∧ ∀ i, f i = true → CanTo ar (fun x => x ∈ cs) i by
          rcases hin.out with h | h
          · exact ⟨h.good, h.can⟩
          · exact h.2)
        cases b
        · have HF : Hid (∀ i, f i = true ↔ CanTo ar (fun x => x ∈ cs) i) := by
            rcases hin.out with h | h
            · refine canTo_iff HQ.out.1 HQ.out.2 fun i t j ha hj => ?_
              exact (h.no rfl).2 (i, t, j) (by rw [List.take_length]; exact ha) hj
            · simp at h
          have HR := hide hbf.out.2
          have HBE := hide (HB0.out.trans (hbf.out.1.mono hvs))
          clear hbf hin HQ
          go_wp2_with fail
          go_ret
          exact ⟨_, f, rfl, hvs, HR.out, HF.out, HBE.out⟩
        · have HBF := hide hbf.out
          have hcw := hbf.out.2.cnt
          obtain ⟨wo, hwo⟩ : ∃ w0, w0 = wr := ⟨_, rfl⟩
          obtain ⟨m0, hm0⟩ : ∃ m, Hid (cntT f N = m) := ⟨_, rfl⟩
          rw [hm0.out] at hcw
          have hmN : m0 ≤ N := by have := cntT_le f N; have := hm0.out; omega
          clear hin hbf
          obtain ⟨hs0, hs1⟩ := cells2 ((HBF.out.1.block _ (row_lt HS0.out)).trans HS0.out)
          go_wp2_with fail
          clear hs0 hs1
          go_loopw [8, 29] (fun fl i wq => ∃ (j : Nat) (b : Bool) (g : Nat → Bool), j ≤ N2 ∧ i = .int .i64 j ∧ fl = .bool b ∧ Hid (Below v.heap.size v wq ∧ BRow wq v.heap.size N g) ∧ Hid (ToIn ar (fun x => x ∈ cs) N j f g b)) (fun _ i _ => N2 - (intOf i).toNat)
          case atStart => exact ⟨0, false, f, Nat.zero_le _, rfl, rfl, HBF.out, ⟨HQ.out.1, HQ.out.2, fun _ => ⟨rfl, fun a ha => by simp at ha⟩, fun e => by simp at e, Nat.le_refl _⟩⟩
          case round =>
            obtain ⟨j, b, g, hj, rfl, rfl, hbg, hto⟩ := hrel
            by_cases hjN : j < N2
            rotate_left
            · have hj' : j = N2 := by omega
              have hcg := hbg.out.2.cnt
              have HX : Hid (ToIn ar (fun x => x ∈ cs) N ar.length g g false ∨ (b = true ∧ (∀ i, i ∈ cs → g i = true) ∧ ∀ i, g i = true → CanTo ar (fun x => x ∈ cs) i)) := by
                cases b
                · refine .inl ⟨hto.out.good, hto.out.can, fun _ => ⟨rfl, ?_⟩, fun e => by simp at e, Nat.le_refl _⟩
                  have := (hto.out.no rfl).2
                  rwa [hj', ← hN2.out] at this
                · exact .inr ⟨rfl, hto.out.good, hto.out.can⟩
              have hms : 2 * (N - cntT g N) + (if b then 1 else 0) < 2 * (N - m0) + 1 := by
                have h1 := hto.out.le
                have h2 := cntT_le g N
                have h3 := hm0.out
                cases b
                · simp; omega
                · have := hto.out.yes rfl; simp; omega
              rw [← hcg] at hms
              clear hto hj hcg hm0
              subst hj'
              have hjj : ¬ (j : Int) < (j : Int) := by omega
              go_wp2_with fail
              go_roundw
              case rel => exact ⟨b, g, rfl, hbg, HX⟩
              case measure => cases b <;> simp_all
            obtain ⟨x, y, z, hxy, hmem⟩ := arc_get (show j < ar.length by rw [hN2.out]; exact hjN)
            obtain ⟨hxN, hzN⟩ : x < N ∧ z < N := HAR.out _ hmem
            obtain ⟨ga, hag, q0, q1, q2⟩ := arcs_at (ownsRow_kept HO0.out fun g' hg' => hbg.out.1.block g' (own_lt HO0.out hg').2) hjN hxy
            have hB2 := fun C => below_al wr (.cells C 66)
            have HBG := hide (fun C => And.intro (hbg.out.1.trans ((hB2 C).mono hbg.out.1.size)) (hbg.out.2.grow (hB2 C)))
            obtain ⟨hz0, hz1⟩ := (HBG.out #[.int .i64 (x : Int), .int .i64 (y : Int), .int .i64 (z : Int)]).2.cell hzN
            obtain ⟨hx0, hx1⟩ := (HBG.out #[.int .i64 (x : Int), .int .i64 (y : Int), .int .i64 (z : Int)]).2.cell hxN
            have hji : (j : Int) < (N2 : Int) := by omega
            have hj9 : (j : Int) ≤ 9600 := by omega
            have hxi : (x : Int) < (N : Int) := by omega
            have hzi : (z : Int) < (N : Int) := by omega
            have hxp : (0 : Int) ≤ (x : Int) := by omega
            have hzp : (0 : Int) ≤ (z : Int) := by omega
            subst hag
            cases hgz : g z
            · have HT := hide (hto.out.skip hxy (fun e => by rw [hgz] at e; cases e))
              rw [hgz] at hz0
              clear hto hgz hbg hB2 hxy hmem
              go_wp2_with fail
              go_roundw
              case rel => exact ⟨j + 1, b, g, by omega, by go_num, rfl, HBG.out _, HT.out⟩
              case measure => simp [intOf]; omega
            · rw [hgz] at hz0
              cases hgx : g x
              · have HT := hide (hto.out.put hxy hgz hgx hxN)
                have HR := hide (fun C => ((HBG.out C).2.set (f' := updT g x) hxN (fun t => rfl)))
                have HB2 := hide (fun C vv => ((HBG.out C).1).setCell (p := ⟨v.heap.size, x, none⟩) (Nat.le_refl _) vv)
                rw [hgx] at hx0
                clear hto hgz hgx hbg hB2 hxy hmem HBG
                go_wp2_with fail
                go_roundw
                case rel => exact ⟨j + 1, true, updT g x, by omega, by go_num, rfl, ⟨HB2.out _ _, HR.out _⟩, HT.out⟩
                case measure => simp [intOf]; omega
              · have HT := hide (hto.out.skip hxy (fun _ => hgx))
                rw [hgx] at hx0
                clear hto hgz hgx hbg hB2 hxy hmem
                go_wp2_with fail
                go_roundw
                case rel => exact ⟨j + 1, b, g, by omega, by go_num, rfl, HBG.out _, HT.out⟩
                case measure => simp [intOf]; omega
end Go.Proofs.Ytdhnhpjcoeglmaa


/- The specification's l4Everywhere and IsHome. -/
namespace Go.Proofs.Ytdhnhpjcoeglmaa
open Go.RowKit
set_option maxRecDepth 10000

/-- How l4Everywhere ends. -/
def EvEnd (ar : List (Nat × Nat × Nat)) (N : Nat) (cs : List Nat) (w : World) (e : Ending) (w' : World) : Prop :=
  ∃ b, e = .returned (.bool b) ∧ (b = true ↔ ∀ i, i < N → CanTo ar (fun x => x ∈ cs) i) ∧ Below w.heap.size w w'

set_option maxHeartbeats 1000000 in
theorem everywhere_any (ma aa ca : Option Addr) (N mc ac nc cc B : Nat) (cs : List Nat) (ar : List (Nat × Nat × Nat)) (w : World) (h : w.ownsRow B 66 3 (.slice aa ar.length ac) ar.length (arcsL ar)) (hN : N ≤ 400) (hlen : ar.length ≤ 9600)
    (har : ∀ a ∈ ar, a.1 < N ∧ a.2.2 < N) (rc : Row w ca nc (cs.map fun (x : Nat) => (x : Int))) (hnc : nc ≤ 1048576) (hcs : ∀ x ∈ cs, x < N) :
    Calls Try.prog 128 #[.agg #[.slice ma N mc, .slice aa ar.length ac], .slice ca nc cc] w fun e w' => EvEnd ar N cs w e w' := by
  have hAl := below_al w (.cells #[.slice ma N mc, .slice aa ar.length ac] 61)
  have HT := hide (l4To_any ma aa ca N mc ac nc cc B cs ar _ (ownsRow_kept h fun g hg => hAl.block g (own_lt h hg).2) hN hlen har (rc.below hAl) hnc hcs)
  have HB0 := hide hAl
  clear h har rc hcs hAl
  generalize ar.length = N2 at *
  go_enter Try.func128, Try.ntmps128
  go_wp2_with fail
  refine HT.out.mono ?_
  rintro e w1 ⟨F, f, rfl, hF, hr, hiff, hb⟩
  have HB1 := hide (HB0.out.trans (hb.mono HB0.out.size))
  have HR := hide hr
  have HI := hide hiff
  clear HT HB0 hr hiff hb
  go_wp2_with fail
  go_loop [11] (fun i => ∃ k : Nat, k ≤ N ∧ i = .int .i64 k ∧ Hid (∀ i, i < k → f i = true)) (fun i => N - (intOf i).toNat)
  case atStart => exact ⟨0, Nat.zero_le _, rfl, fun i hi => absurd hi (by omega)⟩
  case round =>
    obtain ⟨k, hk, rfl, hu⟩ := hrel
    by_cases hlt : k < N
    · obtain ⟨hc, _⟩ := HR.out.cell hlt
      have hkN : (k : Int) < (N : Int) := by omega
      cases hf : f k
      · rw [hf] at hc
        have HE : Hid (false = true ↔ ∀ i, i < N → CanTo ar (fun x => x ∈ cs) i) := ⟨fun e => (by cases e), fun e => (by have := (HI.out k).2 (e k hlt); rw [hf] at this; exact this)⟩
        clear hf hu
        go_wp2_with fail
        go_ret
        exact ⟨false, rfl, HE.out, HB1.out⟩
      · rw [hf] at hc
        have HU : Hid (∀ i, i < k + 1 → f i = true) := fun i hi => by
          by_cases e : i = k
          · rw [e]; exact hf
          · exact hu.out i (by omega)
        clear hf hu
        go_wp2_with fail
        go_round
        case rel => exact ⟨k + 1, by omega, by go_num, HU⟩
        case measure => simp [intOf]; omega
    · have HE : Hid (∀ i, i < N → CanTo ar (fun x => x ∈ cs) i) := fun i hi => (HI.out i).1 (hu.out i (by omega))
      have hk' : k = N := by omega
      clear hu
      subst hk'
      go_wp2_with fail
      go_ret
      exact ⟨true, rfl, ⟨fun _ => HE.out, fun _ => rfl⟩, HB1.out⟩

/-- From each mark one can come to xs. -/
def HomeP (s : Sea) (xs : List Int) : Prop := ∀ i, i < s.ms.length → CanTo s.ar (fun x => x < s.ms.length ∧ s.ms.getD x [] = xs) i

open Classical in
/-- What IsHome tells. -/
noncomputable def ihR (p : Int) (n : Nat) (L : List (List Int)) (ys : List Int) (bg : Int) (xs : List Int) : Bool := saOk p n L ys bg xs && decide (HomeP (spSea p n L ys bg) xs)

/-- How IsHome ends. -/
def IhEnd (p : Int) (n : Nat) (L : List (List Int)) (ys : List Int) (bg : Int) (xs : List Int) (w : World) (e : Ending) (w' : World) : Prop :=
  e = .returned (.tuple #[.bool (ihR p n L ys bg xs), .bool (saOk p n L ys bg xs)]) ∧ Below w.heap.size w w'

theorem ihEnd_no {p : Int} {n : Nat} {L : List (List Int)} {ys xs : List Int} {bg : Int} {w w' : World} (h : saOk p n L ys bg xs = false) (hb : Below w.heap.size w w') : IhEnd p n L ys bg xs w (.returned (.tuple #[.bool false, .bool false])) w' := by
  refine ⟨?_, hb⟩
  unfold ihR; rw [h]; rfl

theorem ihEnd_yes {p : Int} {n l : Nat} {L : List (List Int)} {ys xs : List Int} {bg : Int} {s : Sea} {w w' : World} {b : Bool} (h : saOk p n L ys bg xs = true) (hs : SpOk p n l L ys bg s) (hx : b = true ↔ HomeP s xs) (hb : Below w.heap.size w w') : IhEnd p n L ys bg xs w (.returned (.tuple #[.bool b, .bool true])) w' := by
  refine ⟨?_, hb⟩
  unfold ihR
  rw [h, hs.is]
  have e : (true && @decide (HomeP s xs) (Classical.propDecidable _)) = b := by
    cases b
    · simp only [Bool.true_and, decide_eq_false_iff_not]; exact fun e => by have := hx.2 e; cases this
    · simp only [Bool.true_and, decide_eq_true_eq]; exact hx.1 rfl
  rw [e]

theorem CanTo.congr {ar : List (Nat × Nat × Nat)} {G G' : Nat → Prop} (h : ∀ i, G i ↔ G' i) {i : Nat} : CanTo ar G i ↔ CanTo ar G' i :=
  ⟨CanTo.least (S := CanTo ar G') (fun i hi => .at_ ((h i).1 hi)) fun _ _ _ ha hj => .step ha hj, CanTo.least (S := CanTo ar G) (fun i hi => .at_ ((h i).2 hi)) fun _ _ _ ha hj => .step ha hj⟩

theorem at_idx {s : Sea} {p : Int} {n B : Nat} (hs : SeaOk p n B s) {xs : List Int} (hx : xs ∈ s.ms) (i : Nat) : i ∈ [s.ms.idxOf xs] ↔ (i < s.ms.length ∧ s.ms.getD i [] = xs) := by
  have hlt := List.idxOf_lt_length_of_mem hx
  rw [List.mem_singleton]
  constructor
  · rintro rfl
    refine ⟨hlt, ?_⟩
    rw [List.getD_eq_getElem?_getD, List.getElem?_eq_getElem hlt]
    exact List.getElem_idxOf hlt
  · rintro ⟨h1, h2⟩
    rw [← h2]
    exact (idxOf_at hs.nodup h1).symm

theorem no_idx {s : Sea} {xs : List Int} (hx : xs ∉ s.ms) (i : Nat) : i ∈ ([] : List Nat) ↔ (i < s.ms.length ∧ s.ms.getD i [] = xs) := by
  constructor
  · intro h; cases h
  · rintro ⟨h1, h2⟩
    exact absurd (h2 ▸ mem_at h1) hx

theorem arcs_lt {p : Int} {n l : Nat} {L : List (List Int)} {ys : List Int} {bg : Int} {s : Sea} (hs : SpOk p n l L ys bg s) : ∀ a ∈ s.ar, a.1 < s.ms.length ∧ a.2.2 < s.ms.length := fun a ha => ⟨(hs.ok.arc a ha).1, (hs.ok.arc a ha).2.2⟩

set_option maxHeartbeats 2000000 in
theorem homeS_any (p : Int) (a am ax : Option Addr) (n c nm cm nx cx : Nat) (L : List (List Int)) (ys xs : List Int) (bg : Int) (w : World) (h : Lists w a (3 * n) L) (rm : Row w am nm ys) (rx : Row w ax nx xs) (hs : sizeN n L ≤ 1048576) (hnm : nm ≤ 1048576) (hnx : nx ≤ 1048576) :
    Calls Try.prog 56 #[.agg #[.int .i64 p, .slice a n c], .slice am nm cm, .int .i64 bg, .slice ax nx cx] w fun e w' => IhEnd p n L ys bg xs w e w' := by
  have hAl := below_al w (.cells #[.int .i64 p, .slice a n c] 26)
  have HN0 := hide (heap_alloc_new w (.cells #[.int .i64 p, .slice a n c] 26))
  have HX := hide (all_any4 p a am n c nm cm L ys bg _ (h.below hAl) (rm.below hAl) hs hnm)
  have HX0 := hide (rx.below hAl)
  have HB0 := hide hAl
  clear h rm rx hAl
  go_enter Try.func56, Try.ntmps56
  go_wp2_with fail
  generalize w.alloc (.cells #[.int .i64 p, .slice a n c] 26) = v0 at *
  refine HX.out.mono ?_
  rintro e w1 ⟨hb1, hxx⟩
  have HN1 := hide (keep HN0.out hb1)
  have HX1 := hide (HX0.out.below hb1)
  have HB1 := hide (HB0.out.trans (hb1.mono HB0.out.size))
  clear hb1 HN0 HB0 HX HX0
  rcases hxx with ⟨hcode, s, ma, mc, aa, ac, hok, rfl, hmr, har⟩ | ⟨hcode, rfl⟩
  rotate_left
  · have HN := hide (ihEnd_no (w := w) (saOk_code (xs := xs) hcode) (HB1.out.trans ((below_al w1 (.cells #[.slice none 0 0, .slice none 0 0] 61)).mono HB1.out.size)))
    clear hcode
    go_wp2_with fail
    go_ret2
    exact HN.out
  have hA3 := below_al w1 (.cells #[.slice ma s.ms.length mc, .slice aa s.ar.length ac] 61)
  have HB3 := hide (HB1.out.trans (hA3.mono HB1.out.size))
  have HN3 := hide (keep HN1.out hA3)
  have HX3 := hide (HX1.out.below hA3)
  have HG := hide (goodS_any p ax nx cx xs _ HX3.out hnx)
  obtain ⟨hc0, hc1⟩ := cells2 HN3.out
  have hl16 := hok.l16
  have HM3 := hide ((hmr.go hA3).lists (show nm ≤ maxLen by unfold maxLen; omega))
  have HA3 := hide (ownsRow_kept har fun g hg => hA3.block g (own_lt har hg).2)
  have HS3 := hide (heap_alloc_new w1 (.cells #[.slice ma s.ms.length mc, .slice aa s.ar.length ac] 61))
  have hmx : s.ms.length ≤ 1048576 := by have := hok.m4; omega
  have hm4 := hok.m4
  have hlen := hok.len
  have HFI := hide (find_any ma ax s.ms.length mc nx cx s.ms xs _ HM3.out HX3.out hmx hnx)
  clear hA3 hmr har HB1 HN1 HX1
  by_cases hq : goodB p xs = true
  rotate_left
  · have hq' : goodB p xs = false := by simpa using hq
    have HN := hide (ihEnd_no (w := w) (saOk_good (n := n) (L := L) (ys := ys) (bg := bg) hq') HB3.out)
    rw [hq'] at HG
    clear hq HFI
    go_wp2_with (go_at_call 95; refine HG.out.mono ?_; rintro e w' ⟨rfl, rfl⟩)
    go_ret2
    exact HN.out
  rw [hq] at HG
  have HOK := hide hok
  have hso := saOk_yes hcode hq
  clear hcode hok
  obtain ⟨hs0, hs1⟩ := cells2 HS3.out
  by_cases hin : xs ∈ s.ms
  · have HN := hide (fun W b hx (hW : Below w.heap.size w W) => ihEnd_yes (w := w) (w' := W) (b := b) hso HOK.out hx hW)
    have HIX := hide (fun i => at_idx (xs := xs) HOK.out.ok hin i)
    have hixl : s.ms.idxOf xs < s.ms.length := List.idxOf_lt_length_of_mem hin
    unfold findL at HFI
    rw [if_pos hin] at HFI
    have hpos : (0 : Int) ≤ (s.ms.idxOf xs : Int) := by omega
    clear hin hso
    generalize s.ms.idxOf xs = ix at *
    go_wp2_with (go_at_call 95; refine HG.out.mono ?_; rintro e w' ⟨rfl, rfl⟩)
    generalize w1.alloc (.cells #[.slice ma s.ms.length mc, .slice aa s.ar.length ac] 61) = v3 at *
    refine HFI.out.mono ?_
    rintro e w2 ⟨rfl, q, rfl⟩
    have hbq := below_drewN' v3 q
    have HB4 := hide (HB3.out.trans (hbq.mono HB3.out.size))
    have HS4 := hide (keep HS3.out hbq)
    have HA4 := hide (ownsRow_kept HA3.out fun g hg => hbq.block g (own_lt HA3.out hg).2)
    generalize v3.drewN q = v4 at *
    clear HG HFI HB3 HS3 HN3 HX3 HM3 HA3 hc0 hc1 hs0 hs1 hbq
    obtain ⟨i0, hi, hz0, hz1, hz2⟩ := info_split Try.info3
    have hA5 := below_al v4 (.cells #[.int .i64 (ix : Int)] 3)
    have HO5 := hide ((World.ownsRow_nil v4 v4.heap.size 3 1).alloc (.cells #[.int .i64 (ix : Int)] 3))
    have HB5 := hide (HB4.out.trans (hA5.mono HB4.out.size))
    have HCE : Hid (∀ j u, ([.int .i64 (ix : Int)] : List Value)[j]? = some u → (v4.alloc (.cells #[.int .i64 (ix : Int)] 3)).cell? ((⟨v4.heap.size, 0, none⟩ : Addr).add j) = some u) := one_cell v4 _
    have H1c : Hid (∀ u ∈ ([.int .i64 (ix : Int)] : List Value), u.oneCell' = true) := fun u hu => by simp at hu; subst hu; rfl
    have HXb := hide (show 0 + 1 ≤ maxLen by unfold maxLen; omega)
    have HYb := hide (show (0 + 1) * 8 ≤ 140737488355328 by omega)
    have HZb := hide hA5.size
    have HA5 := hide hA5
    go_upto_region 8 with (refine wpList_append_own _ rfl (.tmp 36) (.tmp 38) 31 rfl v4.heap.size 3 i0 (.int .i64 0) 1 8 Try.underlying31 hi hz0 hz1 hz2 rfl (by decide) (.slice none 0 0) 0 _ rfl HO5.out ⟨v4.heap.size, 0, none⟩ 1 1 [.int .i64 (ix : Int)] rfl rfl HCE.out H1c.out HXb.out HYb.out HZb.out ?_; intro v' W' r1 r2 r3)
    have hr1 := r1
    rw [List.nil_append] at hr1
    obtain ⟨oa, oc, rfl, hrow⟩ := own_row (l := [(ix : Int)]) (by simpa using hr1)
    have hbw := own_below HO5.out r2 HA5.out HZb.out (Nat.le_refl _)
    have HB6 := hide (HB4.out.trans (hbw.mono HB4.out.size))
    have HS6 := hide (keep HS4.out hbw)
    have HEV := hide (everywhere_any ma aa oa s.ms.length mc ac (0 + 1) oc _ [ix] s.ar W' (ownsRow_kept HA4.out fun g hg => hbw.block g (own_lt HA4.out hg).2) hm4 hlen (arcs_lt HOK.out) (by simpa using hrow) (by omega) (fun x hx => by rw [List.mem_singleton.1 hx]; exact hixl))
    obtain ⟨hs0, hs1⟩ := cells2 HS6.out
    clear r1 r2 r3 hr1 hrow hbw HO5 HB5 HCE H1c HXb HYb HZb HA5 HS4 HA4 HB4
    go_wp2_with fail
    refine HEV.out.mono ?_
    rintro e w7 ⟨b, rfl, hbb, hb⟩
    have HE := hide (HN.out w7 b (hbb.trans ⟨fun hh i hi => (CanTo.congr HIX.out).1 (hh i hi), fun hh i hi => (CanTo.congr HIX.out).2 (hh i hi)⟩) (HB6.out.trans (hb.mono HB6.out.size)))
    clear hbb hb
    go_wp2_with fail
    go_ret2
    exact HE.out
  · have HN := hide (fun W b hx (hW : Below w.heap.size w W) => ihEnd_yes (w := w) (w' := W) (b := b) hso HOK.out hx hW)
    have HIX := hide (fun i => no_idx (s := s) (xs := xs) hin i)
    unfold findL at HFI
    rw [if_neg hin] at HFI
    clear hin hso
    go_wp2_with (go_at_call 95; refine HG.out.mono ?_; rintro e w' ⟨rfl, rfl⟩)
    generalize w1.alloc (.cells #[.slice ma s.ms.length mc, .slice aa s.ar.length ac] 61) = v3 at *
    refine HFI.out.mono ?_
    rintro e w2 ⟨rfl, q, rfl⟩
    have hbq := below_drewN' v3 q
    have HB4 := hide (HB3.out.trans (hbq.mono HB3.out.size))
    have HS4 := hide (keep HS3.out hbq)
    have HA4 := hide (ownsRow_kept HA3.out fun g hg => hbq.block g (own_lt HA3.out hg).2)
    generalize v3.drewN q = v4 at *
    clear HG HFI HB3 HS3 HN3 HX3 HM3 HA3 hc0 hc1 hs0 hs1 hbq
    have HEV := hide (everywhere_any ma aa none s.ms.length mc ac 0 0 _ [] s.ar v4 HA4.out hm4 hlen (arcs_lt HOK.out) ⟨rfl, .inl rfl⟩ (by omega) (fun x hx => by cases hx))
    obtain ⟨hs0, hs1⟩ := cells2 HS4.out
    go_wp2_with fail
    refine HEV.out.mono ?_
    rintro e w7 ⟨b, rfl, hbb, hb⟩
    have HE := hide (HN.out w7 b (hbb.trans ⟨fun hh i hi => (CanTo.congr HIX.out).1 (hh i hi), fun hh i hi => (CanTo.congr HIX.out).2 (hh i hi)⟩) (HB4.out.trans (hb.mono HB4.out.size)))
    clear hbb hb
    go_wp2_with fail
    go_ret2
    exact HE.out
end Go.Proofs.Ytdhnhpjcoeglmaa


/- The specification's IsLive. -/
namespace Go.Proofs.Ytdhnhpjcoeglmaa
open Go.RowKit
set_option maxRecDepth 10000

/-- From each mark one can come to one in which t can fire. -/
def LiveT (s : Sea) (L : List (List Int)) (t : Nat) : Prop := ∀ i, i < s.ms.length → CanTo s.ar (fun x => x < s.ms.length ∧ canT L (s.ms.getD x []) t = true) i
def LiveP (s : Sea) (n : Nat) (L : List (List Int)) : Prop := ∀ t, t < n → LiveT s L t

open Classical in
/-- What IsLive tells. -/
noncomputable def ilR (p : Int) (n : Nat) (L : List (List Int)) (ys : List Int) (bg : Int) : Bool := dtOk p n L ys bg && decide (LiveP (spSea p n L ys bg) n L)

/-- How IsLive ends. -/
def IlEnd (p : Int) (n : Nat) (L : List (List Int)) (ys : List Int) (bg : Int) (w : World) (e : Ending) (w' : World) : Prop :=
  e = .returned (.tuple #[.bool (ilR p n L ys bg), .bool (dtOk p n L ys bg)]) ∧ Below w.heap.size w w'

theorem ilEnd_no {p : Int} {n : Nat} {L : List (List Int)} {ys : List Int} {bg : Int} {w w' : World} (h : spCode p n L ys bg ≠ 1) (hb : Below w.heap.size w w') : IlEnd p n L ys bg w (.returned (.tuple #[.bool false, .bool false])) w' := by
  refine ⟨?_, hb⟩
  unfold ilR; rw [dtOk_no h]; rfl

theorem ilEnd_yes {p : Int} {n l : Nat} {L : List (List Int)} {ys : List Int} {bg : Int} {s : Sea} {w w' : World} {b : Bool} (h : spCode p n L ys bg = 1) (hs : SpOk p n l L ys bg s) (hx : b = true ↔ LiveP s n L) (hb : Below w.heap.size w w') : IlEnd p n L ys bg w (.returned (.tuple #[.bool b, .bool true])) w' := by
  refine ⟨?_, hb⟩
  unfold ilR
  rw [dtOk_yes h, hs.is]
  have e : (true && @decide (LiveP s n L) (Classical.propDecidable _)) = b := by
    cases b
    · simp only [Bool.true_and, decide_eq_false_iff_not]; exact fun e => by have := hx.2 e; cases this
    · simp only [Bool.true_and, decide_eq_true_eq]; exact hx.1 rfl
  rw [e]

theorem nums_mem {f : Nat → Bool} {N i : Nat} : i ∈ (List.range N).filter f ↔ (i < N ∧ f i = true) := by
  rw [List.mem_filter, List.mem_range]

end Go.Proofs.Ytdhnhpjcoeglmaa


/- Dead marks: the program's dead, and the search for the first. -/
namespace Go.Proofs.Ytdhnhpjcoeglmaa
open Go.RowKit
set_option maxRecDepth 10000

/-- Whether one of the first n is as asked. -/
def anyE (Pd : Nat → Bool) (n : Nat) : Bool := (List.range n).any Pd

theorem anyE_yes {Pd : Nat → Bool} {n k : Nat} (hk : k < n) (h : Pd k = true) : anyE Pd n = true := by
  unfold anyE
  rw [List.any_eq_true]
  exact ⟨k, by simpa using hk, h⟩

theorem anyE_step {Pd : Nat → Bool} {k : Nat} (h : anyE Pd k = false) (he : Pd k = false) : anyE Pd (k + 1) = false := by
  unfold anyE at *
  rw [List.range_succ, List.any_append, h]
  simp [he]

theorem anyE_congr {f g : Nat → Bool} {n : Nat} (h : ∀ i, i < n → f i = g i) : anyE f n = anyE g n := by
  unfold anyE
  rw [Bool.eq_iff_iff, List.any_eq_true, List.any_eq_true]
  constructor
  · rintro ⟨i, hi, hh⟩; exact ⟨i, hi, by rw [← h i (by simpa using hi)]; exact hh⟩
  · rintro ⟨i, hi, hh⟩; exact ⟨i, hi, by rw [h i (by simpa using hi)]; exact hh⟩

theorem numsL_empty (f : Nat → Bool) (n : Nat) : ((numsL f n).length = 0) ↔ anyE f n = false := by
  unfold numsL anyE
  rw [List.length_map, List.length_eq_zero_iff, List.filter_eq_nil_iff, Bool.eq_false_iff, Ne, List.any_eq_true]
  constructor
  · rintro h ⟨x, h1, h2⟩; exact h x h1 h2
  · intro h x h1 h2; exact h ⟨x, h1, h2⟩

/-- Whether nothing can fire. -/
def deadM (n : Nat) (L : List (List Int)) (m : List Int) : Bool := !anyE (canT L m) n

def IdxE (Pd : Nat → Bool) (n : Nat) (w : World) (e : Ending) (w' : World) : Prop := ∃ z : Int, e = .returned (.int .i64 z) ∧ Hid (decide (0 ≤ z) = anyE Pd n) ∧ Below w.heap.size w w'

set_option maxHeartbeats 1000000 in
theorem indexE_any (s : Nat) (Pd : Nat → Bool) (B n : Nat) (L : List (List Int)) (w : World) (h : PartS w B (3 * n) (3 * n) L) (hn : n ≤ 24)
    (hc : ∀ W k, k < n → Calls Try.prog 121 #[.int .u16 (s : Int), .agg #[.int .u16 (maskL (L.getD (3 * k) []) : Int), .int .u16 (maskL (L.getD (3 * k + 1) []) : Int), .int .u16 (maskL (L.getD (3 * k + 2) []) : Int)]] W fun e W' => e = .returned (.bool (Pd k)) ∧ Below W.heap.size W W') :
    Calls Try.prog 142 #[.slice (some ⟨B, 0, none⟩) n n, .func (.func 121) #[.int .u16 (s : Int)] #[]] w fun e w' => IdxE Pd n w e w' := by
  have HP := hide h
  have HC := hide hc
  clear h hc
  go_enter Try.func142, Try.ntmps142
  go_wp2_with fail
  go_loopw [8] (fun i wr => ∃ k : Nat, k ≤ n ∧ i = .int .i64 k ∧ Hid (anyE Pd k = false) ∧ Hid (Below w.heap.size w wr)) (fun i _ => n - (intOf i).toNat)
  case atStart => exact ⟨0, Nat.zero_le _, rfl, rfl, Below.refl _ _⟩
  case round =>
    obtain ⟨k, hk, rfl, hu, hbw⟩ := hrel
    by_cases hlt : k < n
    rotate_left
    · have hk' : k = n := by omega
      subst hk'
      have HE : Hid (IdxE Pd k w (.returned (.int .i64 (-1))) wr) := ⟨-1, rfl, by rw [hu.out]; rfl, hbw.out⟩
      go_wp2_with fail
      go_ret
      exact HE.out
    obtain ⟨hc0, hc1, hc2⟩ := (HP.out.grow hbw.out).at2 hlt
    have HH := hide (HC.out wr k hlt)
    cases hh : Pd k
    · have HU := hide (anyE_step hu.out hh)
      rw [hh] at HH
      clear hh hu
      generalize maskL (L.getD (3 * k) []) = s0 at *
      generalize maskL (L.getD (3 * k + 1) []) = s1 at *
      generalize maskL (L.getD (3 * k + 2) []) = s2 at *
      go_wp2_with fail
      refine HH.out.mono ?_
      rintro e w1 ⟨rfl, hb⟩
      have HB := hide (hbw.out.trans (hb.mono hbw.out.size))
      clear hb HH hc0 hc1 hc2
      go_wp2_with fail
      go_roundw
      case rel => exact ⟨k + 1, by omega, by go_num, HU, HB⟩
      case measure => simp [intOf]; omega
    · have HY := hide (anyE_yes hlt hh)
      rw [hh] at HH
      clear hh hu
      generalize maskL (L.getD (3 * k) []) = s0 at *
      generalize maskL (L.getD (3 * k + 1) []) = s1 at *
      generalize maskL (L.getD (3 * k + 2) []) = s2 at *
      go_wp2_with fail
      refine HH.out.mono ?_
      rintro e w1 ⟨rfl, hb⟩
      have HE : Hid (IdxE Pd n w (.returned (.int .i64 (k : Int))) w1) := ⟨k, rfl, by rw [HY.out]; simp [Hid], hbw.out.trans (hb.mono hbw.out.size)⟩
      clear hb HH hc0 hc1 hc2
      go_wp2_with fail
      go_ret
      exact HE.out

set_option maxHeartbeats 400000 in
theorem containsE_any (s : Nat) (Pd : Nat → Bool) (B n : Nat) (L : List (List Int)) (w : World) (h : PartS w B (3 * n) (3 * n) L) (hn : n ≤ 24)
    (hc : ∀ W k, k < n → Calls Try.prog 121 #[.int .u16 (s : Int), .agg #[.int .u16 (maskL (L.getD (3 * k) []) : Int), .int .u16 (maskL (L.getD (3 * k + 1) []) : Int), .int .u16 (maskL (L.getD (3 * k + 2) []) : Int)]] W fun e W' => e = .returned (.bool (Pd k)) ∧ Below W.heap.size W W') :
    Calls Try.prog 82 #[.slice (some ⟨B, 0, none⟩) n n, .func (.func 121) #[.int .u16 (s : Int)] #[]] w fun e w' => e = .returned (.bool (anyE Pd n)) ∧ Below w.heap.size w w' := by
  have HI := hide (indexE_any s Pd B n L w h hn hc)
  clear h hc
  go_enter Try.func82, Try.ntmps82
  go_wp2_with fail
  refine HI.out.mono ?_
  rintro e w1 ⟨z, rfl, hz, hb⟩
  have HB := hide hb
  clear hb HI
  go_wp2_with fail
  go_ret
  exact ⟨ret_bool hz.out, HB.out⟩

/-- The first mark that is as asked is the k-th. -/
def FdAt (f : List Int → Bool) (ms : List (List Int)) (k : Nat) : Prop := k < ms.length ∧ (∀ i, i < k → f (ms.getD i []) = false) ∧ f (ms.getD k []) = true

def IdxT (f : List Int → Bool) (ms : List (List Int)) (w : World) (e : Ending) (w' : World) : Prop :=
  ∃ z : Int, e = .returned (.int .i64 z) ∧ Hid ((∃ k : Nat, z = (k : Int) ∧ FdAt f ms k) ∨ (z = -1 ∧ ∀ i, i < ms.length → f (ms.getD i []) = false)) ∧ Below w.heap.size w w'

end Go.Proofs.Ytdhnhpjcoeglmaa


/- FirstDead of both. -/
namespace Go.Proofs.Ytdhnhpjcoeglmaa
open Go.RowKit
set_option maxRecDepth 10000

def fdOk (p : Int) (n : Nat) (L : List (List Int)) (ys : List Int) (bg : Int) : Bool := decide (spCode p n L ys bg = 1) && (spSea p n L ys bg).ms.any (deadM n L)
def fdR (p : Int) (n : Nat) (L : List (List Int)) (ys : List Int) (bg : Int) : List Int := if fdOk p n L ys bg then ((spSea p n L ys bg).ms.find? (deadM n L)).getD [] else []

theorem fd_at {f : List Int → Bool} {ms : List (List Int)} {k : Nat} (h : FdAt f ms k) : ms.any f = true ∧ ms.find? f = some (ms.getD k []) := by
  obtain ⟨hk, h1, h2⟩ := h
  have e : ∀ i (hi : i < ms.length), ms.getD i [] = ms[i] := fun i hi => by rw [List.getD_eq_getElem?_getD, List.getElem?_eq_getElem hi]; rfl
  refine ⟨List.any_eq_true.2 ⟨_, List.getElem_mem hk, by rw [← e k hk]; exact h2⟩, ?_⟩
  rw [List.find?_eq_some_iff_getElem]
  refine ⟨h2, k, hk, (e k hk).symm, fun j hj => ?_⟩
  have := h1 j hj
  rw [e j (by omega)] at this
  simp [this]

theorem fd_none {f : List Int → Bool} {ms : List (List Int)} (h : ∀ i, i < ms.length → f (ms.getD i []) = false) : ms.any f = false := by
  rw [Bool.eq_false_iff, Ne, List.any_eq_true]
  rintro ⟨x, hx, hf⟩
  obtain ⟨i, hi, rfl⟩ := List.getElem_of_mem hx
  have := h i hi
  rw [List.getD_eq_getElem?_getD, List.getElem?_eq_getElem hi] at this
  simp at this; rw [this] at hf; cases hf

theorem fdOk_code {p : Int} {n : Nat} {L : List (List Int)} {ys : List Int} {bg : Int} (h : spCode p n L ys bg ≠ 1) : fdOk p n L ys bg = false := by unfold fdOk; simp [h]
theorem fdOk_none {p : Int} {n l : Nat} {L : List (List Int)} {ys : List Int} {bg : Int} {s : Sea} (hs : SpOk p n l L ys bg s) (h : ∀ i, i < s.ms.length → deadM n L (s.ms.getD i []) = false) : fdOk p n L ys bg = false := by unfold fdOk; rw [hs.is, fd_none h, Bool.and_false]
theorem fdOk_at {p : Int} {n l : Nat} {L : List (List Int)} {ys : List Int} {bg : Int} {s : Sea} (hc : spCode p n L ys bg = 1) (hs : SpOk p n l L ys bg s) {k : Nat} (h : FdAt (deadM n L) s.ms k) : fdOk p n L ys bg = true ∧ fdR p n L ys bg = s.ms.getD k [] := by
  obtain ⟨h1, h2⟩ := fd_at h
  have e : fdOk p n L ys bg = true := by unfold fdOk; rw [hs.is, h1, hc]; rfl
  refine ⟨e, ?_⟩
  unfold fdR; rw [e, if_pos rfl, hs.is, h2]; rfl

theorem fdend_noS {p : Int} {n : Nat} {L : List (List Int)} {ys : List Int} {bg : Int} {w w' : World} (h : fdOk p n L ys bg = false) (hb : Below w.heap.size w w') : WEnd (fdOk p n L ys bg) (fdR p n L ys bg) w (.returned (.tuple #[.slice none 0 0, .bool false])) w' := by
  refine ⟨none, 0, 0, by rw [h], ⟨?_, .inl rfl⟩, hb⟩
  unfold fdR; rw [h]; rfl

theorem fdend_noI {p : Int} {n : Nat} {L : List (List Int)} {ys : List Int} {bg : Int} {w w' : World} (h : fdOk p n L ys bg = false) (hb : Below w.heap.size w w') : OEnd (fdOk p n L ys bg) (fdR p n L ys bg) w (.returned (.tuple #[.slice none 0 0, .bool false])) w' := by
  refine ⟨none, w.heap.size, 0, 0, by rw [h], ⟨?_, .inl rfl⟩, Nat.le_refl _, hb⟩
  unfold fdR; rw [h]; rfl

theorem fdend_yesS {p : Int} {n l : Nat} {L : List (List Int)} {ys : List Int} {bg : Int} {s : Sea} {w w' : World} (hc : spCode p n L ys bg = 1) (hs : SpOk p n l L ys bg s) {k : Nat} (h : FdAt (deadM n L) s.ms k) {g c : Nat} (ho : OutR w' g l (s.ms.getD k [])) (hb : Below w.heap.size w w') : WEnd (fdOk p n L ys bg) (fdR p n L ys bg) w (.returned (.tuple #[.slice (some ⟨g, 0, none⟩) l c, .bool true])) w' := by
  obtain ⟨h1, h2⟩ := fdOk_at hc hs h
  exact ⟨_, l, c, by rw [h1], by rw [h2]; exact ho.row, hb⟩

theorem fdend_yesI {p : Int} {n l : Nat} {L : List (List Int)} {ys : List Int} {bg : Int} {s : Sea} {w w' : World} (hc : spCode p n L ys bg = 1) (hs : SpOk p n l L ys bg s) {k : Nat} (h : FdAt (deadM n L) s.ms k) {g : Nat} (ho : w'.heap[g]? = some (.cells (cellsOf (s.ms.getD k [])) 3 (0, 0))) (hg : w.heap.size ≤ g) (hb : Below w.heap.size w w') : OEnd (fdOk p n L ys bg) (fdR p n L ys bg) w (.returned (.tuple #[.slice (some ⟨g, 0, none⟩) l l, .bool true])) w' := by
  obtain ⟨h1, h2⟩ := fdOk_at hc hs h
  have hl := (hs.goodAt h.1).1
  refine ⟨_, g, l, l, by rw [h1], ?_, hg, hb⟩
  rw [h2]
  generalize s.ms.getD k [] = m at *
  refine ⟨hl, .inr ⟨rfl, _, ho, by simp [cellsOf, hl], fun i hi => ?_⟩⟩
  simp [cellsOf, List.getElem?_eq_getElem (show i < m.length by omega)]

theorem listF_fOf {m : List Int} {l : Nat} (h : m.length = l) : listF (fOf m l) l = m := by
  apply List.ext_getElem
  · rw [listF_len]; exact h.symm
  · intro i h1 h2
    have hi : i < l := by rw [listF_len] at h1; exact h1
    simp [listF, fOf, hi, List.getElem?_eq_getElem h2]

theorem dead_len {n : Nat} {L : List (List Int)} {m : List Int} {k : Nat} (h : (numsL (fun i => canB (L.getD (3 * i) []) m) n).length = k) : ((k : Int) == 0) = deadM n L m := by
  have h2 := numsL_empty (fun i => canB (L.getD (3 * i) []) m) n
  unfold deadM
  have e : anyE (canT L m) n = anyE (fun i => canB (L.getD (3 * i) []) m) n := rfl
  rw [e]
  by_cases hk : k = 0
  · rw [h2.1 (by omega), hk]; rfl
  · have : anyE (fun i => canB (L.getD (3 * i) []) m) n = true := by
      cases hx : anyE (fun i => canB (L.getD (3 * i) []) m) n
      · exact absurd (h2.2 hx) (by omega)
      · rfl
    rw [this]; simp; omega

theorem exec_load_tokQ {o : Oper} {a : Act} {w : World} (x : Operand) (ho : o.op = .load 93 x) (g k l : Nat) (hx : a.eval x = .pointer (some ⟨g, k, none⟩)) (m : List Int) (hc : w.rangeAt g k (encQ l m)) : (execOp a.eval o).run Try.prog w = .ok (.value (.agg (packOf m l))) w := by
  have h := run_loadVar_mid (P := Try.prog) w g k 93 (encQ l m) _ hc Try.underlying93 rfl (by rw [encQ_len]; exact Try.size93)
  unfold execOp
  simp only [ho, hx, Instr.loadAt, Instr.sureAddr, Sem.run_bind, Sem.run_pure, Result.andThen_ok, h]
  simp [encQ]


end Go.Proofs.Ytdhnhpjcoeglmaa


/- What a space that is told whole holds: where one can always fire, no mark is dead and no transition; a bound is at least each mark's number. -/
namespace Go.Proofs.Ytdhnhpjcoeglmaa
open Go.RowKit

theorem oneS_arc {p : Int} {B : Nat} {L : List (List Int)} {s s' : Sea} {m : List Int} {k t : Nat} (he : oneS p L B m k t s = .ok s') : ∃ j, s'.ar = s.ar ++ [(k, t, j)] ∧ s.ms <+: s'.ms := by
  unfold oneS at he
  by_cases h1 : goodB p (fireT L m t) = true
  · rw [if_pos h1] at he
    unfold meetS at he
    by_cases h2 : fireT L m t ∈ s.ms
    · rw [if_pos h2] at he; cases he; exact ⟨_, rfl, List.prefix_refl _⟩
    · rw [if_neg h2] at he
      by_cases h3 : s.ms.length = B
      · rw [if_pos h3] at he; cases he
      · rw [if_neg h3] at he; cases he; exact ⟨_, rfl, List.prefix_append _ _⟩
  · rw [if_neg h1] at he; cases he

theorem rowS_arc {p : Int} {B : Nat} {L : List (List Int)} {m : List Int} {k : Nat} : ∀ {ts : List Nat} {s s' : Sea}, rowS p L B m k ts s = .ok s' →
    s.ms <+: s'.ms ∧ (∀ a ∈ s'.ar, a ∈ s.ar ∨ (a.1 = k ∧ canT L m a.2.1 = true)) ∧ (∀ a ∈ s.ar, a ∈ s'.ar) ∧ (∀ t ∈ ts, canT L m t = true → ∃ a ∈ s'.ar, a.2.1 = t)
  | [], s, s', he => by
    unfold rowS at he; cases he
    exact ⟨List.prefix_refl _, fun a ha => .inl ha, fun a ha => ha, fun t ht => by simp at ht⟩
  | t :: r, s, s', he => by
    unfold rowS at he
    by_cases hc : canT L m t = true
    · rw [if_pos hc] at he
      cases h1 : oneS p L B m k t s with
      | error c => rw [h1] at he; cases he
      | ok s1 =>
        rw [h1] at he
        obtain ⟨j, e1, e2⟩ := oneS_arc h1
        obtain ⟨b1, b2, b3, b4⟩ := rowS_arc he
        refine ⟨e2.trans b1, fun a ha => ?_, fun a ha => b3 a (by rw [e1]; simp [ha]), fun x hx hcx => ?_⟩
        · rcases b2 a ha with h | h
          · rw [e1] at h
            rcases List.mem_append.mp h with h | h
            · exact .inl h
            · simp at h; subst h; exact .inr ⟨rfl, hc⟩
          · exact .inr h
        · rcases List.mem_cons.mp hx with rfl | hx
          · exact ⟨(k, x, j), b3 _ (by rw [e1]; simp), rfl⟩
          · exact b4 x hx hcx
    · rw [if_neg hc] at he
      obtain ⟨b1, b2, b3, b4⟩ := rowS_arc he
      refine ⟨b1, b2, b3, fun x hx hcx => ?_⟩
      rcases List.mem_cons.mp hx with rfl | hx
      · exact absurd hcx hc
      · exact b4 x hx hcx

/-- Each arc fires where it leaves, and of the first k marks all that fires is an arc. -/
structure ArcsTo (n : Nat) (L : List (List Int)) (k : Nat) (s : Sea) : Prop where
  snd : ∀ a ∈ s.ar, canT L (s.ms.getD a.1 []) a.2.1 = true
  all : ∀ i, i < k → ∀ t, t < n → canT L (s.ms.getD i []) t = true → ∃ a ∈ s.ar, a.2.1 = t

theorem seaS_arc {p : Int} {n B : Nat} {L : List (List Int)} : ∀ {f k : Nat} {s s' : Sea}, SeaOk p n B s → f + k = B → k ≤ s.ms.length → ArcsTo n L k s → seaS p n L B f k s = .ok s' → ArcsTo n L s'.ms.length s'
  | 0, k, s, s', h, hf, hk, ha, he => by
    unfold seaS at he; cases he
    have := h.le
    exact ⟨ha.snd, fun i hi => ha.all i (by omega)⟩
  | f + 1, k, s, s', h, hf, hkl, ha, he => by
    unfold seaS at he
    by_cases hk : k < s.ms.length
    · rw [if_pos hk] at he
      cases h1 : rowS p L B (s.ms.getD k []) k (List.range n) s with
      | error c => rw [h1] at he; cases he
      | ok s1 =>
        rw [h1] at he
        obtain ⟨a1, _, a3⟩ := rowS_ok h hk (fun t ht => by simpa using ht) h1
        obtain ⟨b1, b2, b3, b4⟩ := rowS_arc h1
        refine seaS_arc a1 (by omega) (Nat.lt_of_lt_of_le hk a3.length_le) ⟨fun a haa => ?_, fun i hi t ht hc => ?_⟩ he
        · rcases b2 a haa with h2 | ⟨h2, h3⟩
          · rw [prefix_getD b1 (h.arc a h2).1]; exact ha.snd a h2
          · rw [h2, prefix_getD b1 hk]; exact h3
        · by_cases hik : i < k
          · rw [prefix_getD b1 (by omega)] at hc
            obtain ⟨a, haa, e⟩ := ha.all i hik t ht hc
            exact ⟨a, b3 a haa, e⟩
          · have hik2 : i = k := by omega
            subst hik2
            rw [prefix_getD b1 hk] at hc
            exact b4 t (by simpa using ht) hc
    · rw [if_neg hk] at he; cases he
      exact ⟨ha.snd, fun i hi => ha.all i (by omega)⟩

structure SpTold (p : Int) (n : Nat) (L : List (List Int)) (ys : List Int) (bg : Int) : Prop where
  ok : SeaOk p n bg.toNat (spSea p n L ys bg)
  arcs : ArcsTo n L (spSea p n L ys bg).ms.length (spSea p n L ys bg)
  first : (spSea p n L ys bg).ms.getD 0 [] = ys
  good : goodB p ys = true

theorem told_of {p : Int} {n : Nat} {L : List (List Int)} {ys : List Int} {bg : Int} (h : spCode p n L ys bg = 1) : SpTold p n L ys bg := by
  unfold spCode at h
  by_cases ha : askB p n L ys bg = true
  · rw [if_pos ha] at h
    unfold askB at ha
    simp only [Bool.and_eq_true] at ha
    obtain ⟨⟨g1, g2⟩, g3⟩ := ha
    unfold inB at g3
    simp only [Bool.and_eq_true, decide_eq_true_eq] at g3
    have hB : 1 ≤ bg.toNat := by omega
    have h0 := SeaOk.start (n := n) hB g2
    cases hs : searchS p n L bg.toNat ys with
    | error c =>
      rw [hs] at h
      unfold searchS at hs
      rcases seaS_err hs with rfl | rfl <;> cases h
    | ok s =>
      have es : spSea p n L ys bg = s := by unfold spSea; rw [hs]; rfl
      rw [show SpTold p n L ys bg ↔ (SeaOk p n bg.toNat (spSea p n L ys bg) ∧ ArcsTo n L (spSea p n L ys bg).ms.length (spSea p n L ys bg) ∧ (spSea p n L ys bg).ms.getD 0 [] = ys ∧ goodB p ys = true) from ⟨fun h => ⟨h.ok, h.arcs, h.first, h.good⟩, fun h => ⟨h.1, h.2.1, h.2.2.1, h.2.2.2⟩⟩]
      rw [es]
      unfold searchS at hs
      obtain ⟨b1, _, b3⟩ := seaS_ok h0 hs
      refine ⟨b1, seaS_arc h0 (by omega) (Nat.zero_le _) ⟨fun a haa => by simp [sea0] at haa, fun i hi => by omega⟩ hs, ?_, g2⟩
      rw [prefix_getD b3 (by simp [sea0])]
      rfl
  · rw [if_neg ha] at h; cases h

theorem getD_memS {ms : List (List Int)} {m : List Int} (h : m ∈ ms) : ∃ i, i < ms.length ∧ ms.getD i [] = m := by
  obtain ⟨i, hi, rfl⟩ := List.mem_iff_getElem.mp h
  exact ⟨i, hi, by rw [List.getD_eq_getElem?_getD, List.getElem?_eq_getElem hi]; rfl⟩

/-- Where a net is live and has a transition no mark of it is dead. -/
theorem live_fd {p : Int} {n : Nat} {L : List (List Int)} {ys : List Int} {bg : Int} (hl : ilR p n L ys bg = true) (hn : 1 ≤ n) : fdOk p n L ys bg = false := by
  unfold ilR dtOk at hl
  simp only [Bool.and_eq_true, decide_eq_true_eq] at hl
  obtain ⟨h1, h2⟩ := hl
  have T := told_of h1
  unfold fdOk
  rw [Bool.and_eq_false_iff]
  right
  rw [List.any_eq_false]
  intro m hm
  obtain ⟨i, hi, rfl⟩ := getD_memS hm
  have hc := h2 0 (by omega) i hi
  unfold deadM
  have : anyE (canT L ((spSea p n L ys bg).ms.getD i [])) n = true := by
    cases hc with
    | at_ hg => exact anyE_yes (k := 0) (by omega) hg.2
    | @step _ t j ha hr => exact anyE_yes (k := t) (T.ok.arc _ ha).2.1 (T.arcs.snd _ ha)
  rw [this]; simp

/-- Where a net is live no transition of it is dead. -/
theorem live_dt {p : Int} {n : Nat} {L : List (List Int)} {ys : List Int} {bg : Int} (hl : ilR p n L ys bg = true) : dtR p n L ys bg = [] := by
  unfold ilR at hl
  simp only [Bool.and_eq_true, decide_eq_true_eq] at hl
  obtain ⟨h1, h2⟩ := hl
  unfold dtR
  rw [h1, if_pos rfl]
  unfold dtOk at h1
  have T := told_of (by simpa using h1)
  unfold deadL numsL
  rw [List.map_eq_nil_iff, List.filter_eq_nil_iff]
  intro t ht
  have htn : t < n := by simpa using ht
  have hc := h2 t htn 0 T.ok.pos
  have key : ∃ x, x < (spSea p n L ys bg).ms.length ∧ canT L ((spSea p n L ys bg).ms.getD x []) t = true := by
    exact hc.least (S := fun _ => ∃ x, x < (spSea p n L ys bg).ms.length ∧ canT L ((spSea p n L ys bg).ms.getD x []) t = true) (fun i hg => ⟨i, hg.1, hg.2⟩) (fun _ _ _ _ h => h)
  obtain ⟨x, hx, hcx⟩ := key
  obtain ⟨a, haa, e⟩ := T.arcs.all x hx t htn hcx
  have : metB (spSea p n L ys bg).ar t = true := by
    unfold metB; rw [List.any_eq_true]; exact ⟨a, haa, by simp [e]⟩
  rw [this]; simp

theorem bdK_le (ms : List (List Int)) (q : Nat) : ∀ k, k ≤ ms.length → ∀ i, i < k → (ms.getD i []).getD q 0 ≤ bdK ms q k := by
  intro k
  induction k with
  | zero => intro _ i hi; omega
  | succ k ih =>
    intro hk i hi
    rw [bdK_succ (by omega)]
    unfold mostQ
    by_cases e : i = k
    · subst e; split <;> omega
    · have := ih (by omega) i (by omega)
      split <;> omega

/-- A bound is at least the first mark's number. -/
theorem bound_first {p : Int} {n : Nat} {L : List (List Int)} {ys : List Int} {bg q : Int} (h : bdOk p n L ys bg q = true) : ys.getD q.toNat 0 ≤ bdR p n L ys bg q ∧ 0 ≤ q ∧ q < ys.length := by
  have h' := h
  unfold bdOk at h
  simp only [Bool.and_eq_true, decide_eq_true_eq] at h
  have T := told_of h.1
  have hq := h.2
  unfold inB at hq
  simp only [Bool.and_eq_true, decide_eq_true_eq] at hq
  have hl : (ys.length : Int) = p := by
    have := T.good
    unfold goodB at this; simp only [Bool.and_eq_true, decide_eq_true_eq] at this; exact this.1.2
  refine ⟨?_, hq.1, by omega⟩
  unfold bdR
  rw [h', if_pos rfl]
  have := bdK_le (spSea p n L ys bg).ms q.toNat _ (Nat.le_refl _) 0 T.ok.pos
  rw [T.first] at this
  exact this
end Go.Proofs.Ytdhnhpjcoeglmaa
