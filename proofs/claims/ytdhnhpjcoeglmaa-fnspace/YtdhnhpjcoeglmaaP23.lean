/- Contracts that the proof stands on, one behind the other. -/
import Derived.Test.YtdhnhpjcoeglmaaP22
import Derived.Deep.RegionHeld3
import Derived.BigFrame
/- waysOf of the program, and what is asked of a step. -/
namespace Go.Proofs.Ytdhnhpjcoeglmaa
open Go.RowKit
set_option maxRecDepth 10000

def inL (L : List (List Int)) (k : Nat) : List Int := L.getD (3 * k) []
def outL (L : List (List Int)) (k : Nat) : List Int := L.getD (3 * k + 1) []

noncomputable def fthM (n : Nat) (L : List (List Int)) (s : Int) : Nat := rchM (inL L) (outL L) n s
noncomputable def bckM (n : Nat) (L : List (List Int)) (t : Int) : Nat := rchM (outL L) (inL L) n t

theorem netOk_parts {p : Int} {n : Nat} {L : List (List Int)} (h : netOk p n L = true) : (1 ≤ p ∧ p ≤ 16) ∧ n ≤ 24 ∧ ∀ k, k < n → tri3Ok p (L.getD (3 * k) []) (L.getD (3 * k + 1) []) (L.getD (3 * k + 2) []) = true := by
  unfold netOk at h
  simp only [Bool.and_eq_true] at h
  refine ⟨?_, ?_, fun k hk => ?_⟩
  · have := h.1.1; simp [inB] at this; omega
  · simpa using h.1.2
  · have := List.all_eq_true.mp h.2 k (by simpa using hk)
    rwa [triOk_eq] at this

theorem tri3_rise {p : Int} {x0 x1 x2 : List Int} (h : tri3Ok p x0 x1 x2 = true) : riseB x0 0 (p - 1) = true ∧ riseB x1 0 (p - 1) = true ∧ riseB x2 0 (p - 1) = true := by
  unfold tri3Ok at h
  simp only [Bool.and_eq_true] at h
  exact ⟨h.1.1.2, h.1.2, h.2⟩

theorem netOk_mem {p : Int} {n : Nat} {L : List (List Int)} (h : netOk p n L = true) {k : Nat} (hk : k < n) :
    (∀ x ∈ inL L k, 0 ≤ x ∧ x < p) ∧ (∀ x ∈ outL L k, 0 ≤ x ∧ x < p) ∧ (∀ x ∈ L.getD (3 * k + 2) [], 0 ≤ x ∧ x < p) := by
  obtain ⟨_, _, h3⟩ := netOk_parts h
  obtain ⟨r0, r1, r2⟩ := tri3_rise (h3 k hk)
  refine ⟨fun x hx => ?_, fun x hx => ?_, fun x hx => ?_⟩
  · have := riseB_mem r0 x hx; omega
  · have := riseB_mem r1 x hx; omega
  · have := riseB_mem r2 x hx; omega

theorem small_in {p : Int} {n : Nat} {L : List (List Int)} (h : netOk p n L = true) : Small (inL L) n := fun k hk x hx => by
  have := (netOk_mem h hk).1 x hx
  have := (netOk_parts h).1
  omega
theorem small_out {p : Int} {n : Nat} {L : List (List Int)} (h : netOk p n L = true) : Small (outL L) n := fun k hk x hx => by
  have := (netOk_mem h hk).2.1 x hx
  have := (netOk_parts h).1
  omega

theorem ret_b {a b : Bool} (h : a = b) : Ending.returned (.bool a) = .returned (.bool b) := by rw [h]

theorem lacksPlace_any (p q : Int) (a : Option Addr) (n c : Nat) (w : World) :
    Calls Try.prog 137 #[.agg #[.int .i64 p, .slice a n c], .int .i64 q] w fun e w' => e = .returned (.bool (!inB q 0 (p - 1))) ∧ Below w.heap.size w w' := by
  have HX : Hid (∀ b : Bool, (b = true ↔ q < 0 ∨ p ≤ q) → b = !inB q 0 (p - 1)) := by
    intro b hb
    unfold inB
    cases b
    · have : ¬ (q < 0 ∨ p ≤ q) := fun h => by simpa using hb.mpr h
      simp; omega
    · have := hb.mp rfl
      simp; omega
  by_cases h0 : q < 0
  · go_enter Try.func137, Try.ntmps137
    go_wp2_with fail
    go_ret
    exact ⟨ret_b (HX.out true (by simp [h0])), below_al _ _⟩
  by_cases h1 : p ≤ q
  · go_enter Try.func137, Try.ntmps137
    go_wp2_with fail
    go_ret
    exact ⟨ret_b (HX.out true (by simp [h1])), below_al _ _⟩
  · go_enter Try.func137, Try.ntmps137
    go_wp2_with fail
    go_ret
    exact ⟨ret_b (HX.out false (by simp; omega)), below_al _ _⟩

/-- Whether a net is good and two numbers are places of it. -/
def wayOk (p : Int) (n : Nat) (L : List (List Int)) (s t : Int) : Bool := netOk p n L && inB s 0 (p - 1) && inB t 0 (p - 1)

/-- How waysOf ends. -/
def WayEnd (g : Bool) (p : Int) (n : Nat) (L : List (List Int)) (s t : Int) (w : World) (e : Ending) (w' : World) : Prop :=
  ∃ p' a m c F K, e = .returned (.tuple #[.agg #[.int .i64 p', .slice a m c, .int .u16 ((F : Nat) : Int), .int .u16 ((K : Nat) : Int)], .bool g]) ∧
    Hid (g = true → p' = p ∧ m = n ∧ c = n ∧ F = fthM n L s ∧ K = bckM n L t ∧ ∃ B, a = some ⟨B, 0, none⟩ ∧ w.heap.size ≤ B ∧ PartS w' B (3 * n) (3 * n) L) ∧ Below w.heap.size w w'

theorem wayEnd_no {p : Int} {n : Nat} {L : List (List Int)} {s t : Int} {w w' : World} (h : wayOk p n L s t = false) (hb : Below w.heap.size w w') :
    WayEnd (wayOk p n L s t) p n L s t w (.returned (.tuple #[.agg #[.int .i64 0, .slice none 0 0, .int .u16 0, .int .u16 0], .bool false])) w' :=
  ⟨0, none, 0, 0, 0, 0, by rw [h]; rfl, by rw [h]; intro e; simp at e, hb⟩

theorem cells4 {w : World} {b : Nat} {v0 v1 v2 v3 : Value} {T : TypeId} (h : w.heap[b]? = some (.cells #[v0, v1, v2, v3] T (0, 0))) :
    (w.cell? ⟨b, 0, none⟩ = some v0 ∧ w.cell? ⟨b, 1, none⟩ = some v1 ∧ w.cell? ⟨b, 2, none⟩ = some v2 ∧ w.cell? ⟨b, 3, none⟩ = some v3) ∧
    (w.frozen? ⟨b, 0, none⟩ = false ∧ w.frozen? ⟨b, 1, none⟩ = false ∧ w.frozen? ⟨b, 2, none⟩ = false ∧ w.frozen? ⟨b, 3, none⟩ = false) :=
  ⟨⟨cell_of_row w b 0 _ _ _ h, cell_of_row w b 1 _ _ _ h, cell_of_row w b 2 _ _ _ h, cell_of_row w b 3 _ _ _ h⟩,
   ⟨frozen_of_row w b 0 _ _ h, frozen_of_row w b 1 _ _ h, frozen_of_row w b 2 _ _ h, frozen_of_row w b 3 _ _ h⟩⟩

theorem below_set4 {B : Nat} {a w : World} (h : Below B a w) {g : Nat} (hg : B ≤ g) (v0 v1 v2 v3 : Value) :
    Below B a ((((w.setCell ⟨g, 0, none⟩ v0).setCell ⟨g, 1, none⟩ v1).setCell ⟨g, 2, none⟩ v2).setCell ⟨g, 3, none⟩ v3) :=
  (((h.setCell (by simpa using hg) _).setCell (by simpa using hg) _).setCell (by simpa using hg) _).setCell (by simpa using hg) _

theorem PartS.set4 {w : World} {B n k g : Nat} {L : List (List Int)} (h : PartS w B n k L) (hg : B ≠ g) (v0 v1 v2 v3 : Value) : PartS ((((w.setCell ⟨g, 0, none⟩ v0).setCell ⟨g, 1, none⟩ v1).setCell ⟨g, 2, none⟩ v2).setCell ⟨g, 3, none⟩ v3) B n k L :=
  (((h.set_other hg 0 v0).set_other hg 1 v1).set_other hg 2 v2).set_other hg 3 v3

theorem PartS.setRowW {w : World} {B n k g : Nat} {L : List (List Int)} (h : PartS w B n k L) (hg : B ≠ g) (D : Array Value) : PartS (w.setRow g D) B n k L := by
  obtain ⟨C, h1, h2, h3⟩ := h
  exact ⟨C, (setRow_otherW w hg D).trans h1, h2, h3⟩

theorem keep2 {W W' : World} {a1 a2 : Addr} {v1 v2 : Value} (hb : Below W.heap.size W W') (h : W.cell? a1 = some v1 ∧ W.cell? a2 = some v2) : W'.cell? a1 = some v1 ∧ W'.cell? a2 = some v2 :=
  ⟨(hb.cell (World.block_lt_of_cell? _ _ h.1)).trans h.1, (hb.cell (World.block_lt_of_cell? _ _ h.2)).trans h.2⟩

theorem keep2_set4 {W : World} {g b x1 x2 : Nat} {v1 v2 u0 u1 u2 u3 : Value} (hg : b ≠ g) (h : W.cell? ⟨b, x1, none⟩ = some v1 ∧ W.cell? ⟨b, x2, none⟩ = some v2) :
    ((((W.setCell ⟨g, 0, none⟩ u0).setCell ⟨g, 1, none⟩ u1).setCell ⟨g, 2, none⟩ u2).setCell ⟨g, 3, none⟩ u3).cell? ⟨b, x1, none⟩ = some v1 ∧ ((((W.setCell ⟨g, 0, none⟩ u0).setCell ⟨g, 1, none⟩ u1).setCell ⟨g, 2, none⟩ u2).setCell ⟨g, 3, none⟩ u3).cell? ⟨b, x2, none⟩ = some v2 := by
  have far : ∀ x, ((((W.setCell ⟨g, 0, none⟩ u0).setCell ⟨g, 1, none⟩ u1).setCell ⟨g, 2, none⟩ u2).setCell ⟨g, 3, none⟩ u3).cell? ⟨b, x, none⟩ = W.cell? ⟨b, x, none⟩ := fun x => by
    rw [World.cell?_setCell_far _ _ _ _ (fun e => hg e.symm), World.cell?_setCell_far _ _ _ _ (fun e => hg e.symm), World.cell?_setCell_far _ _ _ _ (fun e => hg e.symm), World.cell?_setCell_far _ _ _ _ (fun e => hg e.symm)]
  exact ⟨(far _).trans h.1, (far _).trans h.2⟩

end Go.Proofs.Ytdhnhpjcoeglmaa


/- l3Both and OnWay of the specification. -/
namespace Go.Proofs.Ytdhnhpjcoeglmaa
open Go.RowKit
set_option maxRecDepth 10000

/-- How a function that tells numbers ends. -/
def Nums2End (f : Nat → Bool) (n : Nat) (w : World) (e : Ending) (w' : World) : Prop :=
  ∃ v m, e = .returned v ∧ w'.ownsRow w.heap.size 3 1 v m ((nums2 f n).map (Value.int .i64)) ∧ Below w.heap.size w w'

theorem own_grow2 {B : Nat} {w w' : World} {v : Value} {n : Nat} {l : List Value} (hown : w.ownsRow B 3 1 v n l) (hb : Below w.heap.size w w') : w'.ownsRow B 3 1 v n l := by
  refine ⟨hown.1, ?_⟩
  rcases hown.2 with h0 | ⟨g, cap, cur, e, h1, h2, h3⟩
  · exact .inl h0
  · exact .inr ⟨g, cap, cur, e, h1, (hb.block g (Array.getElem?_eq_some_iff.mp h2).1).trans h2, h3⟩

set_option maxHeartbeats 1000000 in
theorem both_any (F G : Nat → Bool) (b1 b2 n c1 m2 c2 : Nat) (w : World) (h1 : BoolRow w b1 n F) (h2 : BoolRow w b2 n G) (hm : m2 = n) (hn : n ≤ 24) :
    Calls Try.prog 187 #[.slice (some ⟨b1, 0, none⟩) n c1, .slice (some ⟨b2, 0, none⟩) m2 c2] w fun e w' => Nums2End (fun i => F i && G i) n w e w' := by
  subst hm
  have H1 := hide h1
  have H2 := hide h2
  obtain ⟨i0, hi, hz0, hz1, hz2⟩ := info_split2 Try.info3
  clear h1 h2
  go_enter Try.func187, Try.ntmps187
  go_wp2_with fail
  go_loopw [5, 9] (fun o i wr => ∃ k m : Nat, k ≤ m2 ∧ i = .int .i64 k ∧ Hid (m ≤ k) ∧ Hid (wr.ownsRow w.heap.size 3 1 o m ((nums2 (fun i => F i && G i) k).map (Value.int .i64))) ∧ Hid (Below w.heap.size w wr)) (fun _ i _ => m2 - (intOf i).toNat)
  case atStart => exact ⟨0, 0, Nat.zero_le _, rfl, Nat.le_refl _, World.ownsRow_nil _ _ _ _, Below.refl _ _⟩
  case round =>
    obtain ⟨k, m, hk, rfl, hmk, hown, hbw⟩ := hrel
    by_cases hlt : k < m2
    rotate_left
    · have hk' : k = m2 := by omega
      subst hk'
      go_wp2_with fail
      go_ret
      exact ⟨_, m, rfl, hown.out, hbw.out⟩
    obtain ⟨hc1, _⟩ := (H1.out.grow hbw.out).cell hlt
    obtain ⟨hc2, _⟩ := (H2.out.grow hbw.out).cell hlt
    cases hF : F k
    · have HN := hide (nums2_no (f := fun i => F i && G i) (k := k) (by simp [hF]))
      rw [hF] at hc1
      clear hF
      go_wp2_with fail
      go_roundw
      case rel => exact ⟨k + 1, m, by omega, by go_num, Nat.le_succ_of_le hmk.out, by rw [HN.out]; exact hown, hbw⟩
      case measure => simp [intOf]; omega
    cases hG : G k
    · have HN := hide (nums2_no (f := fun i => F i && G i) (k := k) (by simp [hG]))
      rw [hF] at hc1
      rw [hG] at hc2
      clear hF hG
      go_wp2_with fail
      go_roundw
      case rel => exact ⟨k + 1, m, by omega, by go_num, Nat.le_succ_of_le hmk.out, by rw [HN.out]; exact hown, hbw⟩
      case measure => simp [intOf]; omega
    have HN := hide (nums2_yes (f := fun i => F i && G i) (k := k) (by simp [hF, hG]))
    rw [hF] at hc1
    rw [hG] at hc2
    clear hF hG
    have hA2 := below_al wr (.cells #[.int .i64 (k : Int)] 3)
    have HO2 := hide (hown.out.alloc (.cells #[.int .i64 (k : Int)] 3))
    have HB2 := hide (hbw.out.trans (hA2.mono hbw.out.size))
    have HCE : Hid (∀ j u, ([.int .i64 (k : Int)] : List Value)[j]? = some u → (wr.alloc (.cells #[.int .i64 (k : Int)] 3)).cell? ((⟨wr.heap.size, 0, none⟩ : Addr).add j) = some u) := one_cell2 wr _
    have H1c : Hid (∀ u ∈ ([.int .i64 (k : Int)] : List Value), u.oneCell' = true) := fun u hu => by simp at hu; subst hu; rfl
    have HX := hide (show m + 1 ≤ maxLen by have := hmk.out; unfold maxLen; omega)
    have HY := hide (show (m + 1) * 8 ≤ 140737488355328 by have := hmk.out; omega)
    have HZ := hide HB2.out.size
    clear hA2 hown
    go_wp2_with (refine wpList_append_own _ rfl (.tmp 22) (.tmp 24) 31 rfl w.heap.size 3 i0 (.int .i64 0) 1 8 Try.underlying31 hi hz0 hz1 hz2 rfl (by decide) u5 m _ rfl HO2.out ⟨wr.heap.size, 0, none⟩ 1 1 [.int .i64 (k : Int)] rfl rfl HCE.out H1c.out HX.out HY.out HZ.out ?_; intro v' W' r1 r2 r3)
    have HR1 : Hid (W'.ownsRow w.heap.size 3 1 v' (m + 1) ((nums2 (fun i => F i && G i) (k + 1)).map (Value.int .i64))) := by
      show World.ownsRow _ _ _ _ _ _ _
      rw [HN.out, List.map_append]; exact r1
    have HB3 := hide (own_below2 HO2.out r2 HB2.out HB2.out.size (Nat.le_refl _))
    clear r1 r2 r3 hc1 hc2
    go_wp2_with fail
    go_roundw
    case rel => exact ⟨k + 1, m + 1, by omega, by go_num, Nat.succ_le_succ hmk.out, HR1, HB3⟩
    case measure => simp [intOf]; omega

/-- Which places and which transitions are on a way. -/
noncomputable def plB (n : Nat) (L : List (List Int)) (s t : Int) (i : Nat) : Bool := rchB (inL L) (outL L) n s i && rchB (outL L) (inL L) n t i
noncomputable def trB (n : Nat) (L : List (List Int)) (s t : Int) (k : Nat) : Bool := rchT (inL L) (outL L) n s k && rchT (outL L) (inL L) n t k

noncomputable def wayP (p : Int) (n : Nat) (L : List (List Int)) (s t : Int) : List Int := if wayOk p n L s t then nums2 (plB n L s t) p.toNat else []
noncomputable def wayT (p : Int) (n : Nat) (L : List (List Int)) (s t : Int) : List Int := if wayOk p n L s t then nums2 (trB n L s t) n else []

/-- How the specification's OnWay ends. -/
def OwEnd (g : Bool) (xs ys : List Int) (w : World) (e : Ending) (w' : World) : Prop :=
  ∃ a1 n1 c1 a2 n2 c2, e = .returned (.tuple #[.slice a1 n1 c1, .slice a2 n2 c2, .bool g]) ∧ Row w' a1 n1 xs ∧ Row w' a2 n2 ys ∧ Below w.heap.size w w'

theorem owEnd_no {p : Int} {n : Nat} {L : List (List Int)} {s t : Int} {w w' : World} (h : wayOk p n L s t = false) (hb : Below w.heap.size w w') :
    OwEnd (wayOk p n L s t) (wayP p n L s t) (wayT p n L s t) w (.returned (.tuple #[.slice none 0 0, .slice none 0 0, .bool false])) w' :=
  ⟨none, 0, 0, none, 0, 0, by rw [h], ⟨by unfold wayP; rw [h]; rfl, .inl rfl⟩, ⟨by unfold wayT; rw [h]; rfl, .inl rfl⟩, hb⟩

theorem own_row2 {B : Nat} {w : World} {v : Value} {n : Nat} {l : List Int} (hown : w.ownsRow B 3 1 v n (l.map (Value.int .i64))) : ∃ a c, v = .slice a n c ∧ Row w a n l := by
  obtain ⟨a, b, c, e, _, ho⟩ := own_ob2 hown
  exact ⟨a, c, e, ho.row⟩

theorem within_in {p n : Nat} {L : List (List Int)} (h : netOk (p : Int) n L = true) : Within (inL L) p n := fun _ hk x hx => (netOk_mem h hk).1 x hx
theorem within_out {p n : Nat} {L : List (List Int)} (h : netOk (p : Int) n L = true) : Within (outL L) p n := fun _ hk x hx => (netOk_mem h hk).2.1 x hx

set_option maxHeartbeats 4000000 in
theorem onWayS_any (p s t : Int) (a : Option Addr) (n c : Nat) (L : List (List Int)) (w : World) (h : Lists w a (3 * n) L) (hs : sizeN n L ≤ 1048576) :
    Calls Try.prog 184 #[.agg #[.int .i64 p, .slice a n c], .int .i64 s, .int .i64 t] w fun e w' => OwEnd (wayOk p n L s t) (wayP p n L s t) (wayT p n L s t) w e w' := by
  have hAl := below_al w (.cells #[.int .i64 p, .slice a n c] 26)
  have PAR := hide (heap_alloc_new w (.cells #[.int .i64 p, .slice a n c] 26))
  have HG := hide (goodNetS_any p a n c L _ (h.below hAl) hs)
  have HL := hide h
  have HB0 := hide hAl
  clear h hAl
  go_enter Try.func184, Try.ntmps184
  go_wp2_with fail
  refine HG.out.mono ?_
  rintro e w2 ⟨rfl, hb⟩
  have HB1 := hide (HB0.out.trans (hb.mono HB0.out.size))
  have PAR1 := hide (keep PAR.out hb)
  obtain ⟨hc0, hc1⟩ := cells2 PAR1.out
  clear HG HB0 PAR hb
  by_cases hg : netOk p n L = true
  rotate_left
  · have hg' : netOk p n L = false := by simpa using hg
    have HN := hide (owEnd_no (show wayOk p n L s t = false by unfold wayOk; rw [hg']; rfl) HB1.out)
    rw [hg']
    clear hg hg'
    go_wp2_with fail
    go_ret3
    exact HN.out
  rw [hg]
  have HG := hide hg
  obtain ⟨⟨hp1, hp2⟩, hn24, _⟩ := netOk_parts hg
  clear hg
  go_wp2_with fail
  refine (in_any _ _ _ _).mono ?_
  rintro e w3 ⟨rfl, hw3⟩
  subst hw3
  by_cases hq : inB s 0 (p - 1) = true
  rotate_left
  · have hq' : inB s 0 (p - 1) = false := by simpa using hq
    have HN := hide (owEnd_no (show wayOk p n L s t = false by unfold wayOk; rw [hq']; simp) HB1.out)
    rw [hq']
    clear hq hq'
    go_wp2_with fail
    go_ret3
    exact HN.out
  rw [hq]
  have HQ := hide hq
  clear hq
  go_wp2_with fail
  refine (in_any _ _ _ _).mono ?_
  rintro e w3 ⟨rfl, hw3⟩
  subst hw3
  by_cases hq : inB t 0 (p - 1) = true
  rotate_left
  · have hq' : inB t 0 (p - 1) = false := by simpa using hq
    have HN := hide (owEnd_no (show wayOk p n L s t = false by unfold wayOk; rw [hq']; simp) HB1.out)
    rw [hq']
    clear hq hq'
    go_wp2_with fail
    go_ret3
    exact HN.out
  rw [hq]
  have HQ2 := hide hq
  have HOK := hide (show wayOk p n L s t = true by unfold wayOk; rw [HG.out, HQ.out, HQ2.out]; rfl)
  clear hq
  have hs1 : 0 ≤ s ∧ s ≤ p - 1 := by simpa [inB] using HQ.out
  have ht1 : 0 ≤ t ∧ t ≤ p - 1 := by simpa [inB] using HQ2.out
  obtain ⟨P, rfl⟩ : ∃ P : Nat, p = (P : Int) := ⟨p.toNat, by omega⟩
  obtain ⟨S, rfl⟩ : ∃ P : Nat, s = (P : Int) := ⟨s.toNat, by omega⟩
  obtain ⟨T, rfl⟩ : ∃ P : Nat, t = (P : Int) := ⟨t.toNat, by omega⟩
  have HFW := hide (forward_any (inL L) (outL L) P S a n c L w3 (HL.out.below HB1.out) hn24 (by omega) (by omega) hs (within_in HG.out) (within_out HG.out) (fun _ => rfl) (fun _ => rfl))
  have HBK := hide (fun W (hW : Below w.heap.size w W) => backW_any (outL L) (inL L) P T a n c L W (HL.out.below hW) hn24 (by omega) (by omega) hs (within_out HG.out) (within_in HG.out) (fun _ => rfl) (fun _ => rfl))
  clear hs1 ht1
  go_wp2_with fail
  refine HFW.out.mono ?_
  rintro e w4 ⟨b1, b2, rfl, hr1, hr2, hb4⟩
  have HB4 := hide (HB1.out.trans (hb4.mono HB1.out.size))
  have PAR4 := hide (keep PAR1.out hb4)
  have HR1 := hide hr1
  have HR2 := hide hr2
  obtain ⟨hc0, hc1⟩ := cells2 PAR4.out
  clear hb4 hr1 hr2 HB1 PAR1 HFW
  go_wp2_with fail
  refine (HBK.out _ HB4.out).mono ?_
  rintro e w5 ⟨b3, b4, rfl, hr3, hr4, hb5⟩
  have HB5 := hide (HB4.out.trans (hb5.mono HB4.out.size))
  have HB1 := hide (both_any _ _ b1 b3 P P P P w5 (HR1.out.grow hb5) hr3 rfl (by omega))
  have HB2 := hide (fun W (hW : Below w5.heap.size w5 W) => both_any _ _ b2 b4 n n n n W ((HR2.out.grow hb5).grow hW) (hr4.grow hW) rfl hn24)
  clear hb5 hr3 hr4 HB4 PAR4 HBK HR1 HR2 hc0 hc1
  go_wp2_with fail
  refine HB1.out.mono ?_
  rintro e w6 ⟨v6, m6, rfl, hown6, hb6⟩
  have HB6 := hide (HB5.out.trans (hb6.mono HB5.out.size))
  have HB7 := hide (HB2.out w6 hb6)
  obtain ⟨a6, c6, hv6, hr6⟩ := own_row2 hown6
  have HR6 := hide hr6
  subst hv6
  clear hown6 hb6 hr6 HB2 HB1 HB5
  go_wp2_with fail
  refine HB7.out.mono ?_
  rintro e w7 ⟨v7, m7, rfl, hown7, hb7⟩
  obtain ⟨a7, c7, hv7, hr7⟩ := own_row2 hown7
  subst hv7
  have HE : Hid (OwEnd (wayOk (P : Int) n L (S : Int) (T : Int)) (wayP (P : Int) n L (S : Int) (T : Int)) (wayT (P : Int) n L (S : Int) (T : Int)) w (.returned (.tuple #[.slice a6 m6 c6, .slice a7 m7 c7, .bool true])) w7) :=
    ⟨a6, m6, c6, a7, m7, c7, by rw [HOK.out], by unfold wayP; rw [HOK.out]; exact HR6.out.below hb7, by unfold wayT; rw [HOK.out]; exact hr7, HB6.out.trans (hb7.mono HB6.out.size)⟩
  clear hown7 hb7 hr7 HB7
  go_wp2_with fail
  go_ret3
  exact HE.out
end Go.Proofs.Ytdhnhpjcoeglmaa


/- What the program asks of a step of a flow: leads, misses, spoiledBy; slices.ContainsFunc with these. -/
namespace Go.Proofs.Ytdhnhpjcoeglmaa
open Go.RowKit
set_option maxRecDepth 10000

theorem ret_u16i {a b : Int} (h : a = b) : Ending.returned (.int .u16 a) = .returned (.int .u16 b) := by rw [h]

def leadB (s0 s1 F K : Nat) : Bool := decide (s0 &&& F ≠ 0) && decide (s1 &&& K ≠ 0)

theorem all_wrap {p : Nat} (h1 : 1 ≤ p) (h2 : p ≤ 16) : IntKind.u16.wrap (IntKind.u16.wrap (2 ^ p) - 1) = ((2 ^ p - 1 : Nat) : Int) := by
  have : p = 1 ∨ p = 2 ∨ p = 3 ∨ p = 4 ∨ p = 5 ∨ p = 6 ∨ p = 7 ∨ p = 8 ∨ p = 9 ∨ p = 10 ∨ p = 11 ∨ p = 12 ∨ p = 13 ∨ p = 14 ∨ p = 15 ∨ p = 16 := by omega
  rcases this with rfl | rfl | rfl | rfl | rfl | rfl | rfl | rfl | rfl | rfl | rfl | rfl | rfl | rfl | rfl | rfl <;> rfl

set_option maxHeartbeats 1000000 in
theorem all_any (p : Nat) (a : Option Addr) (m c : Nat) (w : World) (h1 : 1 ≤ p) (h2 : p ≤ 16) :
    Calls Try.prog 110 #[.agg #[.int .i64 (p : Int), .slice a m c]] w fun e w' => e = .returned (.int .u16 ((2 ^ p - 1 : Nat) : Int)) ∧ Below w.heap.size w w' := by
  have HB := hide (all_wrap h1 h2)
  go_enter Try.func110, Try.ntmps110
  go_wp2_with fail
  go_ret
  exact ⟨ret_u16i HB.out, below_al _ _⟩

set_option maxHeartbeats 400000 in
theorem givesW_any (k s0 s1 s2 : Nat) (w : World) (h1 : s1 < 2 ^ 16) (hk : k < 16) :
    Calls Try.prog 76 #[.agg #[.int .u16 (s0 : Int), .int .u16 (s1 : Int), .int .u16 (s2 : Int)], .int .i64 (k : Int)] w fun e w' => e = .returned (.bool (s1.testBit k)) ∧ Below w.heap.size w w' := by
  have HB0 := hide (below_al w (.cells #[.int .u16 (s0 : Int), .int .u16 (s1 : Int), .int .u16 (s2 : Int)] 88))
  go_enter Try.func76, Try.ntmps76
  go_wp2_with fail
  refine (has2_any _ _ _ h1 hk).mono ?_
  rintro e w1 ⟨rfl, rfl⟩
  go_wp2_with fail
  go_ret
  exact ⟨rfl, HB0.out⟩

set_option maxHeartbeats 400000 in
theorem takesW_any (k s0 s1 s2 : Nat) (w : World) (h0 : s0 < 2 ^ 16) (hk : k < 16) :
    Calls Try.prog 73 #[.agg #[.int .u16 (s0 : Int), .int .u16 (s1 : Int), .int .u16 (s2 : Int)], .int .i64 (k : Int)] w fun e w' => e = .returned (.bool (s0.testBit k)) ∧ Below w.heap.size w w' := by
  have HB0 := hide (below_al w (.cells #[.int .u16 (s0 : Int), .int .u16 (s1 : Int), .int .u16 (s2 : Int)] 88))
  go_enter Try.func73, Try.ntmps73
  go_wp2_with fail
  refine (has2_any _ _ _ h0 hk).mono ?_
  rintro e w1 ⟨rfl, rfl⟩
  go_wp2_with fail
  go_ret
  exact ⟨rfl, HB0.out⟩

def spoilB (s0 s1 s2 f t : Nat) : Bool := s1.testBit f || s0.testBit t || s2.testBit f || s2.testBit t

theorem cells3W {w : World} {b : Nat} {v0 v1 v2 : Value} {T : TypeId} (h : w.heap[b]? = some (.cells #[v0, v1, v2] T (0, 0))) : w.cell? ⟨b, 0, none⟩ = some v0 ∧ w.cell? ⟨b, 1, none⟩ = some v1 ∧ w.cell? ⟨b, 2, none⟩ = some v2 :=
  ⟨cell_of_row w b 0 _ _ _ h, cell_of_row w b 1 _ _ _ h, cell_of_row w b 2 _ _ _ h⟩

end Go.Proofs.Ytdhnhpjcoeglmaa


/- slices.ContainsFunc over the steps of a net, with a bound method. -/
namespace Go.Proofs.Ytdhnhpjcoeglmaa
open Go.RowKit
set_option maxRecDepth 10000

/-- Whether one of the first n is as asked. -/
def anyK (Pd : Nat → Bool) (n : Nat) : Bool := (List.range n).any Pd

theorem anyK_yes {Pd : Nat → Bool} {n k : Nat} (hk : k < n) (h : Pd k = true) : anyK Pd n = true := by
  unfold anyK
  rw [List.any_eq_true]
  exact ⟨k, by simpa using hk, h⟩

theorem anyK_step {Pd : Nat → Bool} {k : Nat} (h : anyK Pd k = false) (he : Pd k = false) : anyK Pd (k + 1) = false := by
  unfold anyK at *
  rw [List.range_succ, List.any_append, h]
  simp [he]

def IdxEnd2 (Pd : Nat → Bool) (n : Nat) (w : World) (e : Ending) (w' : World) : Prop := ∃ z : Int, e = .returned (.int .i64 z) ∧ Hid (decide (0 ≤ z) = anyK Pd n) ∧ Below w.heap.size w w'

end Go.Proofs.Ytdhnhpjcoeglmaa


/- When a flow is good, and that the program and the specification ask the same for it. -/
namespace Go.Proofs.Ytdhnhpjcoeglmaa
open Go.RowKit

def spoilL (L : List (List Int)) (s t : Int) (k : Nat) : Bool :=
  hasB (outL L k) s || hasB (inL L k) t || hasB (L.getD (3 * k + 2) []) s || hasB (L.getD (3 * k + 2) []) t

noncomputable def flowOk (p : Int) (n : Nat) (L : List (List Int)) (s t : Int) : Bool :=
  wayOk p n L s t && !decide (s = t) && decide (((wayP p n L s t).length : Int) = p) && decide ((wayT p n L s t).length = n) && !anyK (spoilL L s t) n

theorem nums2_full {f : Nat → Bool} {k : Nat} : (nums2 f k).length = k ↔ ∀ i, i < k → f i = true := by
  unfold nums2
  rw [List.length_map]
  constructor
  · intro h i hi
    have := List.length_filter_eq_length_iff.mp (by simpa using h : ((List.range k).filter f).length = (List.range k).length) i (by simpa using hi)
    exact this
  · intro h
    have := List.length_filter_eq_length_iff.mpr (fun i hi => h i (by simpa using hi) : ∀ i ∈ List.range k, f i = true)
    simpa using this

theorem wayOk_parts {p : Int} {n : Nat} {L : List (List Int)} {s t : Int} (h : wayOk p n L s t = true) : netOk p n L = true ∧ (0 ≤ s ∧ s < p) ∧ (0 ≤ t ∧ t < p) := by
  unfold wayOk at h
  simp only [Bool.and_eq_true] at h
  have h1 := h.1.2
  have h2 := h.2
  simp [inB] at h1 h2
  exact ⟨h.1.1, by omega, by omega⟩

theorem fth_bit {p : Int} {n : Nat} {L : List (List Int)} {s t : Int} (h : wayOk p n L s t = true) (i : Nat) : (fthM n L s).testBit i = rchB (inL L) (outL L) n s i := by
  obtain ⟨hg, hs, ht⟩ := wayOk_parts h
  have hp := (netOk_parts hg).1
  exact rchM_bit (small_out hg) ⟨by omega, by omega⟩ i
theorem bck_bit {p : Int} {n : Nat} {L : List (List Int)} {s t : Int} (h : wayOk p n L s t = true) (i : Nat) : (bckM n L t).testBit i = rchB (outL L) (inL L) n t i := by
  obtain ⟨hg, hs, ht⟩ := wayOk_parts h
  have hp := (netOk_parts hg).1
  exact rchM_bit (small_in hg) ⟨by omega, by omega⟩ i

theorem fthM_lt (n : Nat) (L : List (List Int)) (s : Int) : fthM n L s < 2 ^ 16 := rchM_lt _ _ _ _
theorem bckM_lt (n : Nat) (L : List (List Int)) (s : Int) : bckM n L s < 2 ^ 16 := rchM_lt _ _ _ _

theorem Rch.within {A B : Nat → List Int} {p n : Nat} {s q : Int} (hB : Within B p n) (hs : 0 ≤ s ∧ s < (p : Int)) (h : Rch A B n s q) : 0 ≤ q ∧ q < (p : Int) := by
  induction h with
  | base => exact hs
  | step _ hk _ hq _ => exact hB _ hk _ hq

theorem pl_bit {p : Int} {n : Nat} {L : List (List Int)} {s t : Int} (h : wayOk p n L s t = true) (i : Nat) : (fthM n L s &&& bckM n L t).testBit i = plB n L s t i := by
  rw [Nat.testBit_and, fth_bit h, bck_bit h]; rfl

theorem pl_lt {p : Nat} {n : Nat} {L : List (List Int)} {s t : Int} (h : wayOk (p : Int) n L s t = true) {i : Nat} (hi : plB n L s t i = true) : i < p := by
  obtain ⟨hg, hs, ht⟩ := wayOk_parts h
  unfold plB at hi
  rw [Bool.and_eq_true] at hi
  have := (rchB_iff.mp hi.1).within (within_out hg) hs
  omega

theorem pl_all {p : Nat} {n : Nat} {L : List (List Int)} {s t : Int} (h : wayOk (p : Int) n L s t = true) : fthM n L s &&& bckM n L t = 2 ^ p - 1 ↔ ((wayP (p : Int) n L s t).length : Int) = (p : Int) := by
  unfold wayP
  rw [h, if_pos rfl, Int.toNat_natCast]
  rw [show (((nums2 (plB n L s t) p).length : Nat) : Int) = (p : Int) ↔ (nums2 (plB n L s t) p).length = p by omega, nums2_full]
  constructor
  · intro e i hi
    rw [← pl_bit h i, e, Nat.testBit_two_pow_sub_one]; simpa using hi
  · intro hall
    apply Nat.eq_of_testBit_eq
    intro i
    rw [pl_bit h i, Nat.testBit_two_pow_sub_one]
    by_cases hi : i < p
    · rw [hall i hi]; simp [hi]
    · have : ¬ plB n L s t i = true := fun e => hi (pl_lt h e)
      simp [hi, this]

theorem lead_tr {p : Int} {n : Nat} {L : List (List Int)} {s t : Int} (h : wayOk p n L s t = true) {k : Nat} (hk : k < n) : leadB (maskL (L.getD (3 * k) [])) (maskL (L.getD (3 * k + 1) [])) (fthM n L s) (bckM n L t) = trB n L s t k := by
  obtain ⟨hg, hs, ht⟩ := wayOk_parts h
  have hm := netOk_mem hg hk
  rw [show L.getD (3 * k) [] = inL L k from rfl, show L.getD (3 * k + 1) [] = outL L k from rfl]
  unfold leadB trB
  congr 1
  · rw [Bool.eq_iff_iff, decide_eq_true_iff, and_ne_iff (fun x hx => (hm.1 x hx).1)]
    unfold rchT
    rw [List.any_eq_true]
    simp only [fth_bit h]
  · rw [Bool.eq_iff_iff, decide_eq_true_iff, and_ne_iff (fun x hx => (hm.2.1 x hx).1)]
    unfold rchT
    rw [List.any_eq_true]
    simp only [bck_bit h]

theorem tr_all {p : Int} {n : Nat} {L : List (List Int)} {s t : Int} (h : wayOk p n L s t = true) : anyK (fun k => !leadB (maskL (L.getD (3 * k) [])) (maskL (L.getD (3 * k + 1) [])) (fthM n L s) (bckM n L t)) n = !decide ((wayT p n L s t).length = n) := by
  unfold wayT
  rw [h, if_pos rfl]
  rw [Bool.eq_iff_iff]
  unfold anyK
  rw [List.any_eq_true, Bool.not_eq_true', decide_eq_false_iff_not, nums2_full]
  constructor
  · rintro ⟨k, hk, he⟩ hall
    have hk' : k < n := by simpa using hk
    rw [lead_tr h hk', hall k hk'] at he
    simp at he
  · intro hno
    apply Classical.byContradiction
    intro hne
    apply hno
    intro k hk
    apply Classical.byContradiction
    intro he
    exact hne ⟨k, by simpa using hk, by rw [lead_tr h hk]; simpa using he⟩

theorem hasB_mask {xs : List Int} {y : Int} (h : ∀ x ∈ xs, 0 ≤ x) (hy : 0 ≤ y) : (maskL xs).testBit y.toNat = hasB xs y := by
  rw [maskL_bit xs _ h, show ((y.toNat : Nat) : Int) = y by omega]
  unfold hasB
  rw [Bool.eq_iff_iff, decide_eq_true_iff]
  simp

theorem spoil_eq {p : Int} {n : Nat} {L : List (List Int)} {s t : Int} (h : wayOk p n L s t = true) : anyK (fun k => spoilB (maskL (L.getD (3 * k) [])) (maskL (L.getD (3 * k + 1) [])) (maskL (L.getD (3 * k + 2) [])) s.toNat t.toNat) n = anyK (spoilL L s t) n := by
  obtain ⟨hg, hs, ht⟩ := wayOk_parts h
  have key : ∀ k, k < n → spoilB (maskL (L.getD (3 * k) [])) (maskL (L.getD (3 * k + 1) [])) (maskL (L.getD (3 * k + 2) [])) s.toNat t.toNat = spoilL L s t k := by
    intro k hk
    have hm := netOk_mem hg hk
    rw [show L.getD (3 * k) [] = inL L k from rfl, show L.getD (3 * k + 1) [] = outL L k from rfl]
    unfold spoilB spoilL
    rw [hasB_mask (fun x hx => (hm.2.1 x hx).1) hs.1, hasB_mask (fun x hx => (hm.1 x hx).1) ht.1, hasB_mask (fun x hx => (hm.2.2 x hx).1) hs.1, hasB_mask (fun x hx => (hm.2.2 x hx).1) ht.1]
  unfold anyK
  rw [Bool.eq_iff_iff, List.any_eq_true, List.any_eq_true]
  constructor
  · rintro ⟨k, hk, he⟩; exact ⟨k, hk, by rw [← key k (by simpa using hk)]; exact he⟩
  · rintro ⟨k, hk, he⟩; exact ⟨k, hk, by rw [key k (by simpa using hk)]; exact he⟩
end Go.Proofs.Ytdhnhpjcoeglmaa


/- flowSteps of the program. -/
namespace Go.Proofs.Ytdhnhpjcoeglmaa
open Go.RowKit
set_option maxRecDepth 10000

/-- How flowSteps ends. -/
def FlowEnd (g : Bool) (p : Int) (n : Nat) (L : List (List Int)) (s t : Int) (w : World) (e : Ending) (w' : World) : Prop :=
  ∃ p' a m c s' t', e = .returned (.tuple #[.agg #[.int .i64 p', .slice a m c, .int .i64 s', .int .i64 t'], .bool g]) ∧
    Hid (g = true → p' = p ∧ m = n ∧ c = n ∧ s' = s ∧ t' = t ∧ ∃ B, a = some ⟨B, 0, none⟩ ∧ w.heap.size ≤ B ∧ PartS w' B (3 * n) (3 * n) L) ∧ Below w.heap.size w w'

theorem flowEnd_no {p : Int} {n : Nat} {L : List (List Int)} {s t : Int} {w w' : World} (h : flowOk p n L s t = false) (hb : Below w.heap.size w w') :
    FlowEnd (flowOk p n L s t) p n L s t w (.returned (.tuple #[.agg #[.int .i64 0, .slice none 0 0, .int .i64 0, .int .i64 0], .bool false])) w' :=
  ⟨0, none, 0, 0, 0, 0, by rw [h], by rw [h]; intro e; simp at e, hb⟩

theorem flow_no1 {p : Int} {n : Nat} {L : List (List Int)} {s t : Int} (h : wayOk p n L s t = false) : flowOk p n L s t = false := by unfold flowOk; rw [h]; rfl
theorem flow_no2 {p : Int} {n : Nat} {L : List (List Int)} {s t : Int} (h : s = t) : flowOk p n L s t = false := by unfold flowOk; simp [h]
theorem flow_no3 {p : Int} {n : Nat} {L : List (List Int)} {s t : Int} (h : ¬ ((wayP p n L s t).length : Int) = p) : flowOk p n L s t = false := by unfold flowOk; simp [h]
theorem flow_no4 {p : Int} {n : Nat} {L : List (List Int)} {s t : Int} (h : ¬ (wayT p n L s t).length = n) : flowOk p n L s t = false := by unfold flowOk; simp [h]
theorem flow_no5 {p : Int} {n : Nat} {L : List (List Int)} {s t : Int} (h : anyK (spoilL L s t) n = true) : flowOk p n L s t = false := by unfold flowOk; simp [h]
theorem flow_yes {p : Int} {n : Nat} {L : List (List Int)} {s t : Int} (h1 : wayOk p n L s t = true) (h2 : ¬ s = t) (h3 : ((wayP p n L s t).length : Int) = p) (h4 : (wayT p n L s t).length = n) (h5 : anyK (spoilL L s t) n = false) : flowOk p n L s t = true := by
  unfold flowOk; simp [h1, h2, h3, h4, h5]

end Go.Proofs.Ytdhnhpjcoeglmaa


/- GoodFlow: the specification's and the program's. -/
namespace Go.Proofs.Ytdhnhpjcoeglmaa
open Go.RowKit
set_option maxRecDepth 10000

theorem spoil_step {L : List (List Int)} {s t : Int} {k : Nat} (h : anyK (spoilL L s t) k = false) (h0 : hasB (outL L k) s = false) (h1 : hasB (inL L k) t = false) (h2 : hasB (L.getD (3 * k + 2) []) s = false) (h3 : hasB (L.getD (3 * k + 2) []) t = false) : anyK (spoilL L s t) (k + 1) = false :=
  anyK_step h (by unfold spoilL; rw [h0, h1, h2, h3]; rfl)

set_option maxHeartbeats 4000000 in
theorem goodFlowS_any (p s t : Int) (a : Option Addr) (n c : Nat) (L : List (List Int)) (w : World) (h : Lists w a (3 * n) L) (hs : sizeN n L ≤ 1048576) :
    Calls Try.prog 176 #[.agg #[.int .i64 p, .slice a n c, .int .i64 s, .int .i64 t]] w fun e w' => e = .returned (.bool (flowOk p n L s t)) ∧ Below w.heap.size w w' := by
  have HA := hide (below_al w (.cells #[.int .i64 p, .slice a n c, .int .i64 s, .int .i64 t] 157))
  have PAR := hide (heap_alloc_new w (.cells #[.int .i64 p, .slice a n c, .int .i64 s, .int .i64 t] 157))
  have HF := hide (onWayS_any p s t a n c L _ (h.below HA.out) hs)
  have HL := hide h
  have hs' : n + sizeL L ≤ 1048576 := hs
  clear h
  go_enter Try.func176, Try.ntmps176
  go_wp2_with fail
  refine HF.out.mono ?_
  rintro e w1 ⟨a1, n1, c1, a2, n2, c2, rfl, hr1, hr2, hb⟩
  have HB1 := hide (HA.out.trans (hb.mono HA.out.size))
  have PAR1 := hide (keep PAR.out hb)
  have hl1 := hr1.1
  have hl2 := hr2.1
  obtain ⟨⟨hc0, hc1, hc2, hc3⟩, _⟩ := cells4 PAR1.out
  clear hb HF HA PAR hr1 hr2
  by_cases hg : wayOk p n L s t = true
  rotate_left
  · have hg' : wayOk p n L s t = false := by simpa using hg
    have HN := hide (flow_no1 hg')
    rw [hg']
    clear hg hg' hl1 hl2
    go_wp2_with fail
    go_ret
    exact ⟨ret_b HN.out.symm, HB1.out⟩
  have HG := hide hg
  have hn24 := (netOk_parts (wayOk_parts hg).1).2.1
  rw [hg]
  clear hg
  by_cases hst : s = t
  · have HN := hide (flow_no2 (p := p) (n := n) (L := L) hst)
    subst hst
    have hdd : (s == s) = true := by simp
    clear hl1 hl2
    go_wp2_with fail
    go_ret
    exact ⟨ret_b HN.out.symm, HB1.out⟩
  have hdd : (s == t) = false := by simpa using hst
  have HST := hide hst
  clear hst
  by_cases h1 : ((n1 : Nat) : Int) = p
  rotate_left
  · have HN := hide (flow_no3 (p := p) (n := n) (L := L) (s := s) (t := t) (by rw [hl1]; exact h1))
    have hd1 : (((n1 : Nat) : Int) != p) = true := by simpa using h1
    clear hl1 hl2 h1
    go_wp2_with fail
    go_ret
    exact ⟨ret_b HN.out.symm, HB1.out⟩
  have hd1 : (((n1 : Nat) : Int) != p) = false := by simpa using h1
  by_cases h2 : n2 = n
  rotate_left
  · have HN := hide (flow_no4 (p := p) (n := n) (L := L) (s := s) (t := t) (by rw [hl2]; exact h2))
    have hd2 : (((n2 : Nat) : Int) != ((n : Nat) : Int)) = true := by simp; omega
    clear hl1 hl2 h1 h2
    go_wp2_with fail
    go_ret
    exact ⟨ret_b HN.out.symm, HB1.out⟩
  have hd2 : (((n : Nat) : Int) != ((n : Nat) : Int)) = false := by simp
  have HY := hide (fun h5 => flow_yes HG.out HST.out (by rw [hl1]; exact h1) (by rw [hl2]; exact h2) h5)
  subst h2
  clear hl1 hl2 h1
  go_wp2_with fail
  clear hc0 hc1 hc2 hc3
  go_loopw [49] (fun i wr => ∃ k : Nat, k ≤ n2 ∧ i = .int .i64 k ∧ Hid (anyK (spoilL L s t) k = false) ∧ Hid (Below w.heap.size w wr) ∧ Hid (wr.heap[w.heap.size]? = some (.cells #[.int .i64 p, .slice a n2 c, .int .i64 s, .int .i64 t] 157 (0, 0)))) (fun i _ => n2 - (intOf i).toNat)
  case atStart => exact ⟨0, Nat.zero_le _, rfl, rfl, HB1, PAR1⟩
  case round =>
    clear HB1 PAR1
    obtain ⟨k, hk, rfl, hu, hbw, par⟩ := hrel
    by_cases hlt : k < n2
    rotate_left
    · have hk' : k = n2 := by omega
      subst hk'
      have HE := hide (HY.out hu.out)
      go_wp2_with fail
      go_ret
      exact ⟨ret_b HE.out.symm, hbw.out⟩
    obtain ⟨b, off, a0, m0, c0, a3, m3, c3, a4, m4, c4, rfl, hb, hr, q0, q1, q2, r0, r1, r2⟩ := (HL.out.below hbw.out).tri hlt
    obtain ⟨hd0, hd3, hd4⟩ := rangeAt_cells3 hr
    have l0 := len_le L (3 * k)
    have l1 := len_le L (3 * k + 1)
    have l2 := len_le L (3 * k + 2)
    have z0 : m0 ≤ 1048576 := by have := r0.1; omega
    have z1 : m3 ≤ 1048576 := by have := r1.1; omega
    have z2 : m4 ≤ 1048576 := by have := r2.1; omega
    have hA1 := below_al wr (.cells #[.slice a0 m0 c0, .slice a3 m3 c3, .slice a4 m4 c4] 78)
    have R0 := hide (r0.below hA1)
    have R1 := hide (r1.below hA1)
    have R2 := hide (r2.below hA1)
    have HB2 := hide (hbw.out.trans (hA1.mono hbw.out.size))
    have PAR2 := hide (keep par.out hA1)
    have hlw : w.heap.size < wr.heap.size := row_lt par.out
    have HT := hide (heap_alloc_new wr (.cells #[.slice a0 m0 c0, .slice a3 m3 c3, .slice a4 m4 c4] 78))
    obtain ⟨⟨hc0, hc1, hc2, hc3⟩, _⟩ := cells4 par.out
    clear hr r0 r1 r2 q0 q1 q2 hA1 l0 l1 l2
    have H1 := hide (has_any a3 m3 c3 (outL L k) s _ R1.out z1)
    have H2 := hide (has_any a0 m0 c0 (inL L k) t _ R0.out z0)
    have H3 := hide (has_any a4 m4 c4 (L.getD (3 * k + 2) []) s _ R2.out z2)
    have H4 := hide (has_any a4 m4 c4 (L.getD (3 * k + 2) []) t _ R2.out z2)
    have HNO := hide (fun (h : spoilL L s t k = true) => flow_no5 (p := p) (anyK_yes hlt h))
    obtain ⟨x1, e1⟩ : ∃ x, Hid (hasB (outL L k) s = x) := ⟨_, rfl⟩
    obtain ⟨x2, e2⟩ : ∃ x, Hid (hasB (inL L k) t = x) := ⟨_, rfl⟩
    obtain ⟨x3, e3⟩ : ∃ x, Hid (hasB (L.getD (3 * k + 2) []) s = x) := ⟨_, rfl⟩
    obtain ⟨x4, e4⟩ : ∃ x, Hid (hasB (L.getD (3 * k + 2) []) t = x) := ⟨_, rfl⟩
    rw [e1.out] at H1
    rw [e2.out] at H2
    rw [e3.out] at H3
    rw [e4.out] at H4
    clear R0 R1 R2
    go_wp2_with fail
    refine H1.out.mono ?_
    rintro e w3 ⟨rfl, hw3⟩
    obtain rfl := hw3
    cases x1
    rotate_left
    · have HN := hide (HNO.out (by unfold spoilL; rw [e1.out]; rfl))
      go_wp2_with fail
      go_ret
      exact ⟨ret_b HN.out.symm, HB2.out⟩
    go_wp2_with fail
    refine H2.out.mono ?_
    rintro e w3 ⟨rfl, hw3⟩
    obtain rfl := hw3
    cases x2
    rotate_left
    · have HN := hide (HNO.out (by unfold spoilL; rw [e1.out, e2.out]; rfl))
      go_wp2_with fail
      go_ret
      exact ⟨ret_b HN.out.symm, HB2.out⟩
    go_wp2_with fail
    refine H3.out.mono ?_
    rintro e w3 ⟨rfl, hw3⟩
    obtain rfl := hw3
    cases x3
    rotate_left
    · have HN := hide (HNO.out (by unfold spoilL; rw [e1.out, e2.out, e3.out]; rfl))
      go_wp2_with fail
      go_ret
      exact ⟨ret_b HN.out.symm, HB2.out⟩
    go_wp2_with fail
    refine H4.out.mono ?_
    rintro e w3 ⟨rfl, hw3⟩
    obtain rfl := hw3
    cases x4
    rotate_left
    · have HN := hide (HNO.out (by unfold spoilL; rw [e1.out, e2.out, e3.out, e4.out]; rfl))
      go_wp2_with fail
      go_ret
      exact ⟨ret_b HN.out.symm, HB2.out⟩
    have HU := hide (spoil_step hu.out e1.out e2.out e3.out e4.out)
    go_wp2_with fail
    go_roundw
    case rel => exact ⟨k + 1, by omega, by go_num, HU, HB2, PAR2⟩
    case measure => simp [intOf]; omega
end Go.Proofs.Ytdhnhpjcoeglmaa


/- StartOf and EndOf, the program's and the specification's. -/
namespace Go.Proofs.Ytdhnhpjcoeglmaa
open Go.RowKit
set_option maxRecDepth 10000

/-- The mark with one token. -/
def oneF (s : Nat) (i : Nat) : Int := if i = s then 1 else 0
def oneL (p s : Nat) : List Int := listF (oneF s) p

/-- How a function of the program that answers a list and true ends. -/
def OEndW (g : Bool) (r : List Int) (w : World) (e : Ending) (w' : World) : Prop :=
  ∃ a b n c, e = .returned (.tuple #[.slice a n c, .bool g]) ∧ Ob w' a b n r ∧ w.heap.size ≤ b ∧ Below w.heap.size w w'

/-- How one of the specification ends. -/
def WEndW (g : Bool) (r : List Int) (w : World) (e : Ending) (w' : World) : Prop :=
  ∃ a n c, e = .returned (.tuple #[.slice a n c, .bool g]) ∧ Row w' a n r ∧ Below w.heap.size w w'

theorem blk_ob {w : World} {a : Option Addr} {b n : Nat} {xs : List Int} (h : Blk w a b n xs) : Ob w a b n xs := by
  refine ⟨h.1, ?_⟩
  rcases h.2 with h0 | ⟨e, hh⟩
  · exact .inl h0
  · refine .inr ⟨e, _, hh, ?_, fun i hi => ?_⟩
    · have := h.1; unfold cellsOf; simp; omega
    · have := h.1; unfold cellsOf; simp [show i < xs.length by omega]

/-- A whole array loaded, where the operation is wanted. -/
theorem wpList_load_wantW {P : Program} {ops : Array Oper} {rest : List Oper} {o : Oper} {a : Act} {w : World} {Q : Exit → Act → World → Prop} (hw : Region.wanted o (yielded ops a.tmps) = true) (ty : TypeId) (x : Operand) (ho : o.op = .load ty x)
    (g : Nat) (hx : a.eval x = .pointer (some ⟨g, 0, none⟩)) (t : TypeId) (cells : Array Value) (n : Nat) (e : TypeId) (hg : w.heap[g]? = some (.cells cells t (0, 0))) (hu : P.underlying ty = some (.array n e)) (hi : (P.info? ty).map (·.size) = some cells.size)
    (h : wpList P ops Q rest (a.put o.dst (.agg cells)) w) : wpList P ops Q (o :: rest) a w :=
  BigFrame.wpList_want hw fun _ hK => wp_load_row ty x ho g hx t cells (0, 0) _ hg hu rfl hi (hK _ _ h)

theorem zerosW : (#[.int .u8 0, .int .u8 0, .int .u8 0, .int .u8 0, .int .u8 0, .int .u8 0, .int .u8 0, .int .u8 0, .int .u8 0, .int .u8 0, .int .u8 0, .int .u8 0, .int .u8 0, .int .u8 0, .int .u8 0, .int .u8 0] : Array Value) = tokF (fun _ => 0) := rfl

theorem Try.sizeW93 : (Try.prog.info? 93).map (·.size) = some 16 := by kernel_rfl

theorem calls_tok {P : Program} {f : FuncId} {y : Value} {w : World} {R : Ending → World → Prop} {X : Array Value} {F : Nat → Int} (h : X = tokF F) (hc : Calls P f #[.agg (tokF F), y] w R) : Calls P f #[.agg X, y] w R := by rw [h]; exact hc

/-- What StartOf and EndOf answer. -/
noncomputable def oneR (p : Int) (n : Nat) (L : List (List Int)) (s t q : Int) : List Int := if flowOk p n L s t then oneL p.toNat q.toNat else []

theorem oneR_len (p : Int) (n : Nat) (L : List (List Int)) (s t q : Int) (hp : flowOk p n L s t = true → p ≤ 16) : (oneR p n L s t q).length ≤ 16 := by
  unfold oneR; split
  · rename_i h
    unfold oneL; rw [listF_len]; have := hp h; omega
  · exact Nat.zero_le _

theorem flowOk_parts {p : Int} {n : Nat} {L : List (List Int)} {s t : Int} (h : flowOk p n L s t = true) : wayOk p n L s t = true ∧ ¬ s = t ∧ ((wayP p n L s t).length : Int) = p ∧ (wayT p n L s t).length = n ∧ anyK (spoilL L s t) n = false := by
  unfold flowOk at h
  simp only [Bool.and_eq_true, Bool.not_eq_true', decide_eq_true_iff, decide_eq_false_iff_not] at h
  exact ⟨h.1.1.1.1, h.1.1.1.2, h.1.1.2, h.1.2, h.2⟩

theorem flow_num {p : Int} {n : Nat} {L : List (List Int)} {s t : Int} (h : flowOk p n L s t = true) : (1 ≤ p ∧ p ≤ 16) ∧ n ≤ 24 ∧ (0 ≤ s ∧ s < p) ∧ (0 ≤ t ∧ t < p) := by
  obtain ⟨h1, _⟩ := flowOk_parts h
  obtain ⟨hg, hs, ht⟩ := wayOk_parts h1
  obtain ⟨hp, hn, _⟩ := netOk_parts hg
  exact ⟨hp, hn, hs, ht⟩

set_option maxHeartbeats 1000000 in
theorem one3_any (P s : Nat) (w : World) (hP : P ≤ 16) (hs : s < P) :
    Calls Try.prog 177 #[.int .i64 (P : Int), .int .i64 (s : Int)] w fun e w' => ∃ a c, e = .returned (.slice a P c) ∧ Row w' a P (oneL P s) ∧ Below w.heap.size w w' := by
  have hmk := run_make_row' (P := Try.prog) 31 3 (.int .i64 0) 8 Try.underlying31 Try.info3 rfl .i64 .i64 P (by omega) (by omega)
  have hat : (madeCells #[.int .i64 0] P)[s]? = some (.int .i64 0) := by simp [madeCells, hs, Nat.mod_one]
  have hst : (madeCells #[.int .i64 0] P).setIfInBounds s (.int .i64 1) = cellsOf (oneL P s) := by
    apply Array.ext_getElem?
    intro i
    rw [Array.getElem?_setIfInBounds]
    by_cases hi : i < P
    · have h2 : (cellsOf (oneL P s))[i]? = some (.int .i64 (oneF s i)) := by unfold cellsOf oneL listF; simp [hi]
      rw [h2]
      by_cases e : s = i
      · subst e; simp [size_madeCells, hs, oneF]
      · rw [if_neg e]; simp [madeCells, hi, Nat.mod_one, oneF, show ¬ i = s by omega]
    · rw [Array.getElem?_eq_none (xs := cellsOf (oneL P s)) (by unfold cellsOf oneL; simp [listF_len]; omega), if_neg (by omega), Array.getElem?_eq_none (by rw [size_madeCells]; omega)]
  have HST := hide hst
  have hs1 : (s : Int) < (P : Int) := by omega
  clear hst
  go_enter Try.func177, Try.ntmps177
  go_wp2_with fail
  go_ret
  rw [HST.out]
  exact ⟨_, _, rfl, row_new w (oneL P s) P w.heap.size (by unfold oneL; exact listF_len _ _) rfl, below_al _ _⟩

set_option maxHeartbeats 1000000 in
theorem startS_any (p s t : Int) (a : Option Addr) (n c : Nat) (L : List (List Int)) (w : World) (h : Lists w a (3 * n) L) (hs : sizeN n L ≤ 1048576) :
    Calls Try.prog 154 #[.agg #[.int .i64 p, .slice a n c, .int .i64 s, .int .i64 t]] w fun e w' => WEndW (flowOk p n L s t) (oneR p n L s t s) w e w' := by
  have HA := hide (below_al w (.cells #[.int .i64 p, .slice a n c, .int .i64 s, .int .i64 t] 157))
  have PAR := hide (heap_alloc_new w (.cells #[.int .i64 p, .slice a n c, .int .i64 s, .int .i64 t] 157))
  have HF := hide (goodFlowS_any p s t a n c L _ (h.below HA.out) hs)
  clear h
  go_enter Try.func154, Try.ntmps154
  go_wp2_with fail
  refine HF.out.mono ?_
  rintro e w1 ⟨rfl, hb⟩
  have HB := hide (HA.out.trans (hb.mono HA.out.size))
  obtain ⟨⟨hc0, hc1, hc2, hc3⟩, _⟩ := cells4 (keep PAR.out hb)
  clear hb HF PAR
  by_cases hg : flowOk p n L s t = true
  rotate_left
  · have hg' : flowOk p n L s t = false := by simpa using hg
    have HN : Hid (WEndW (flowOk p n L s t) (oneR p n L s t s) w (.returned (.tuple #[.slice none 0 0, .bool false])) w1) :=
      ⟨none, 0, 0, by rw [hg'], ⟨by unfold oneR; rw [hg']; rfl, .inl rfl⟩, HB.out⟩
    rw [hg']
    clear hg hg'
    go_wp2_with fail
    go_ret2
    exact HN.out
  obtain ⟨⟨hp1, hp2⟩, hn24, hs1, ht1⟩ := flow_num hg
  obtain ⟨P, rfl⟩ : ∃ P : Nat, p = (P : Int) := ⟨p.toNat, by omega⟩
  obtain ⟨Q, hQ⟩ : ∃ Q : Nat, s = (Q : Int) := ⟨s.toNat, by omega⟩
  have HG := hide hg
  rw [hg]
  subst hQ
  have HO := hide (fun W => one3_any P Q W (by omega) (by omega))
  clear hg
  go_wp2_with fail
  refine (HO.out _).mono ?_
  rintro e w2 ⟨a2, c2, rfl, hrow, hb2⟩
  have HE : Hid (WEndW (flowOk (P : Int) n L (Q : Int) t) (oneR (P : Int) n L (Q : Int) t (Q : Int)) w (.returned (.tuple #[.slice a2 P c2, .bool true])) w2) :=
    ⟨_, P, _, by rw [HG.out], by unfold oneR; rw [HG.out]; simpa using hrow, HB.out.trans (hb2.mono HB.out.size)⟩
  clear hrow hb2 HO
  go_wp2_with fail
  go_ret2
  exact HE.out

end Go.Proofs.Ytdhnhpjcoeglmaa


/- A drawn net some of whose lists are cut: its lists in memory of the call's own. -/
namespace Go.Proofs.Ytdhnhpjcoeglmaa
open Go.RowKit
set_option maxRecDepth 10000

def CellR (B g : Nat) (v : World) (x : Value) : Prop :=
  ∃ a n c xs, x = .slice a n c ∧ n ≤ 2 ∧ n ≤ c ∧ c ≤ maxLen ∧ Row v a n xs ∧ (0 < n → ∀ o, a = some o → B ≤ o.block ∧ o.block ≠ g)

/-- Block g holds the 3 k lists of a net. -/
structure NetR (B : Nat) (v : World) (g k : Nat) : Prop where
  hB : B ≤ g
  out : ∃ C, v.heap[g]? = some (.cells C 78 (0, 0)) ∧ 3 * k ≤ C.size ∧ ∀ j, j < 3 * k → ∃ x, C[j]? = some x ∧ CellR B g v x

theorem CellR.kept {B g bc : Nat} {v v' : World} {x : Value} (h : CellR B g v x) (hk : Kept bc v.heap.size v v') (hb : bc < B) : CellR B g v' x := by
  obtain ⟨a, n, c, xs, e, h1, h2, h3, h4, h5⟩ := h
  exact ⟨a, n, c, xs, e, h1, h2, h3, h4.kept hk (fun h0 o ho => by have := (h5 h0 o ho).1; omega), h5⟩

theorem NetR.lt {B g k : Nat} {v : World} (h : NetR B v g k) : g < v.heap.size := by obtain ⟨C, h1, _⟩ := h.out; exact row_lt h1

theorem NetR.kept {B g k bc : Nat} {v v' : World} (h : NetR B v g k) (hk : Kept bc v.heap.size v v') (hb : bc < B) : NetR B v' g k := by
  obtain ⟨C, h1, h2, h3⟩ := h.out
  have := h.hB
  exact ⟨h.hB, C, (hk.block g (row_lt h1) (by omega)).trans h1, h2, fun j hj => by obtain ⟨x, e, hx⟩ := h3 j hj; exact ⟨x, e, hx.kept hk hb⟩⟩

theorem NetR.of_own {B : Nat} {v : World} {g k cp : Nat} {cells : List Value} (h : NetOwn B v (.slice (some ⟨g, 0, none⟩) k cp) k cells) : NetR B v g k := by
  rcases h.own.2 with ⟨e, _⟩ | ⟨g', cp', cur, e, hg, hh, _, _, hsc, htk⟩
  · cases e
  · simp only [Value.slice.injEq, Option.some.injEq, Addr.mk.injEq, and_true] at e
    obtain ⟨rfl, _⟩ := e
    have hcl := h.own.1
    refine ⟨hg, cur, hh, ?_, fun j hj => ?_⟩
    · have := congrArg List.length htk
      rw [List.length_take] at this
      simp at this
      omega
    · obtain ⟨a, n, c, xs, e1, hn, hl, hd⟩ := h.tris j hj
      refine ⟨.slice a n c, ?_, a, n, c, xs, rfl, hn, ?_, ?_, hl.row, fun h0 o ho => ⟨(hl.lt ho).1, fun e => hd o ho (by simp [Value.ownBlock, e])⟩⟩
      · rw [← htk] at e1
        rw [List.getElem?_take_of_lt (by omega), Array.getElem?_toList] at e1
        exact e1
      · rcases hl with ⟨_, rfl, _⟩ | ⟨_, _, _, _, h2, _⟩
        · exact Nat.zero_le _
        · exact h2
      · rcases hl with ⟨_, _, rfl, _⟩ | ⟨_, _, _, _, _, h2, _⟩
        · exact Nat.zero_le _
        · exact h2

theorem NetR.cell {B g k : Nat} {v : World} (h : NetR B v g k) {j : Nat} (hj : j < 3 * k) : ∃ a n c xs, v.cell? ⟨g, j, none⟩ = some (.slice a n c) ∧ v.frozen? ⟨g, j, none⟩ = false ∧ n ≤ 2 ∧ n ≤ c ∧ c ≤ maxLen ∧ Row v a n xs ∧ (0 < n → ∀ o, a = some o → B ≤ o.block ∧ o.block ≠ g) := by
  obtain ⟨C, h1, h2, h3⟩ := h.out
  obtain ⟨x, e, a, n, c, xs, rfl, r1, r2, r3, r4, r5⟩ := h3 j hj
  exact ⟨a, n, c, xs, (cell_of_row v g j C _ _ h1).trans e, frozen_of_row v g j C _ h1, r1, r2, r3, r4, r5⟩

theorem sizeV (w : World) (p : Addr) (v : Value) : (w.setCell p v).heap.size = w.heap.size := by simp [World.setCell]

theorem Row.cut {v : World} {a : Option Addr} {n n' : Nat} {xs : List Int} (h : Row v a n xs) (hn : n' ≤ n) : Row v a n' (xs.take n') := by
  refine ⟨by rw [List.length_take]; have := h.1; omega, ?_⟩
  rcases h.2 with h0 | ⟨b, off, e, hb, hc⟩
  · exact .inl (by omega)
  · refine .inr ⟨b, off, e, hb, fun i hi => ?_⟩
    rw [hc i (by omega), List.getD_eq_getElem?_getD, List.getD_eq_getElem?_getD, List.getElem?_take_of_lt hi]

theorem CellR.set {B g k : Nat} {v : World} {x u : Value} (h : CellR B g v x) : CellR B g (v.setCell ⟨g, k, none⟩ u) x := by
  obtain ⟨a, n, c, xs, e, h1, h2, h3, h4, h5⟩ := h
  refine ⟨a, n, c, xs, e, h1, h2, h3, ⟨h4.1, ?_⟩, h5⟩
  rcases h4.2 with h0 | ⟨b, off, e2, hb, hc⟩
  · exact .inl h0
  · by_cases hn : 0 < n
    · refine .inr ⟨b, off, e2, by rw [sizeV]; exact hb, fun i hi => ?_⟩
      have hne := (h5 hn _ e2).2
      exact (World.cell?_of_block (a := ⟨b, off + i, none⟩) (Below.heap_setCell _ _ _ _ hne)).trans (hc i hi)
    · exact .inl (by omega)

/-- A list is cut. -/
theorem NetR.set {B g k : Nat} {v : World} (h : NetR B v g k) {j : Nat} (hj : j < 3 * k) {a : Option Addr} {n n' c : Nat} (hc : v.cell? ⟨g, j, none⟩ = some (.slice a n c)) (hn : n' ≤ n) : NetR B (v.setCell ⟨g, j, none⟩ (.slice a n' c)) g k := by
  obtain ⟨C, h1, h2, h3⟩ := h.out
  refine ⟨h.hB, C.setIfInBounds j (.slice a n' c), heap_setCell_same _ _ _ _ _ _ h1, by simpa using h2, fun i hi => ?_⟩
  rw [Array.getElem?_setIfInBounds]
  by_cases e : j = i
  · subst e
    refine ⟨.slice a n' c, by rw [if_pos rfl, if_pos (by omega)], ?_⟩
    obtain ⟨x, e1, hx⟩ := h3 j hj
    rw [cell_of_row v g j C _ _ h1, e1] at hc
    obtain rfl := Option.some.inj hc
    obtain ⟨a1, n1, c1, xs, e2, r1, r2, r3, r4, r5⟩ := (hx.set (k := j) (u := .slice a n' c))
    simp only [Value.slice.injEq] at e2
    obtain ⟨rfl, rfl, rfl⟩ := e2
    exact ⟨_, n', _, _, rfl, by omega, by omega, r3, r4.cut hn, fun h0 o ho => r5 (by omega) o ho⟩
  · obtain ⟨x, e1, hx⟩ := h3 i hi
    exact ⟨x, by rw [if_neg e]; exact e1, hx.set⟩

theorem Row.movedV {B : Nat} {v W : World} {a : Option Addr} {n : Nat} {xs : List Int} (h : Row v a n xs) (hl : 0 < n → ∀ o, a = some o → B ≤ o.block) (hs : v.heap.size ≤ W.heap.size) (hk : ∀ q, B ≤ q → q < v.heap.size → W.heap[q]? = v.heap[q]?) : Row W a n xs := by
  refine ⟨h.1, ?_⟩
  rcases h.2 with h0 | ⟨b, off, e, hb, hc⟩
  · exact .inl h0
  · by_cases h0 : 0 < n
    · exact .inr ⟨b, off, e, by omega, fun i hi => (World.cell?_of_block (a := ⟨b, off + i, none⟩) (hk b (hl h0 _ e) hb)).trans (hc i hi)⟩
    · exact .inl (by omega)

theorem NetR.listsM {B g k : Nat} {v : World} (h : NetR B v g k) (hk : k ≤ 5) : ∃ L, sizeN k L ≤ 35 ∧ ∀ W, v.heap.size ≤ W.heap.size → (∀ q, B ≤ q → q < v.heap.size → W.heap[q]? = v.heap[q]?) → Lists W (some ⟨g, 0, none⟩) (3 * k) L := by
  obtain ⟨C, h1, h2, h3⟩ := h.out
  obtain ⟨L, hL, hP⟩ := exists_list (P := fun j xs => ∃ a n c, C[j]? = some (.slice a n c) ∧ n ≤ 2 ∧ Row v a n xs ∧ (0 < n → ∀ o, a = some o → B ≤ o.block)) (3 * k) fun j hj => by
    obtain ⟨x, e, a, n, c, xs, rfl, r1, _, _, r4, r5⟩ := h3 j hj
    exact ⟨xs, a, n, c, e, r1, r4, fun h0 o ho => (r5 h0 o ho).1⟩
  have hsz : ∀ q, q ≤ 3 * k → sizeL (L.take q) ≤ 2 * q := by
    intro q
    induction q with
    | zero => intro _; simp [sizeL]
    | succ q ih =>
      intro hq
      rw [sizeL_take_succ L q (by omega)]
      obtain ⟨a, n, c, _, hn, hl, _⟩ := hP q (by omega)
      have := hl.1
      have := ih (by omega)
      omega
  refine ⟨L, ?_, fun W hs hkk => ⟨hL, .inr ⟨g, 0, rfl, Nat.lt_of_lt_of_le (row_lt h1) hs, fun j hj => ?_⟩⟩⟩
  · unfold sizeN
    have := hsz (3 * k) (Nat.le_refl _)
    rw [List.take_of_length_le (by omega)] at this
    omega
  · obtain ⟨a, n, c, e, hn, hr, hl⟩ := hP j hj
    refine ⟨a, n, c, ?_, by unfold maxLen; omega, hr.movedV hl hs hkk⟩
    rw [cell_of_row W g (0 + j) C _ _ ((hkk g h.hB (row_lt h1)).trans h1), Nat.zero_add]; exact e

theorem NetW.listsM {M B : Nat} {v : World} {u : Value} {k : Nat} {cells : List Value} (h : NetW M B v u k cells) (hk : k ≤ 100) (hM : M ≤ 21) : ∃ a c L, u = .slice a k c ∧ sizeN k L ≤ 6400 ∧ ∀ W, v.heap.size ≤ W.heap.size → (∀ q, B ≤ q → q < v.heap.size → W.heap[q]? = v.heap[q]?) → Lists W a (3 * k) L := by
  have hcl : cells.length = 3 * k := by have := h.own.1; omega
  obtain ⟨L, hL, hP⟩ := exists_list (P := fun j x => ∃ a n c, cells[j]? = some (.slice a n c) ∧ n ≤ M ∧ NewL B v a n c x) (3 * k) fun j hj => by
    obtain ⟨a, n, c, xs, e, hn, hl, _⟩ := h.tris j hj
    exact ⟨xs, a, n, c, e, hn, hl⟩
  have hsz : ∀ q, q ≤ 3 * k → sizeL (L.take q) ≤ 21 * q := by
    intro q
    induction q with
    | zero => intro _; simp [sizeL]
    | succ q ih =>
      intro hq
      rw [sizeL_take_succ L q (by omega)]
      obtain ⟨a, n, c, _, hn, hl⟩ := hP q (by omega)
      have := hl.row.1
      have := ih (by omega)
      omega
  have hs : sizeN k L ≤ 6400 := by
    unfold sizeN
    have := hsz (3 * k) (Nat.le_refl _)
    rw [List.take_of_length_le (by omega)] at this
    omega
  rcases h.own.2 with ⟨e, h0⟩ | ⟨g, cp, cur, e, hg, hh, _, _, hsc, htk⟩
  · subst h0
    exact ⟨none, 0, L, e, hs, fun W _ _ => ⟨hL, .inl rfl⟩⟩
  · refine ⟨_, cp, L, e, hs, fun W hsz hkk => ⟨hL, .inr ⟨g, 0, rfl, Nat.lt_of_lt_of_le (Array.getElem?_eq_some_iff.mp hh).1 hsz, fun j hj => ?_⟩⟩⟩
    obtain ⟨a, n, c, e1, hn, hl⟩ := hP j hj
    refine ⟨a, n, c, ?_, by unfold maxLen; omega, (hl.keep hsz fun q hq hlt _ => hkk q hq hlt).row⟩
    rw [cell_of_row W g (0 + j) cur _ _ ((hkk g hg (Array.getElem?_eq_some_iff.mp hh).1).trans hh), Nat.zero_add]
    have e2 : (cur.toList.take (k * 3))[j]? = cells[j]? := by rw [htk]
    rw [List.getElem?_take_of_lt (by omega), Array.getElem?_toList] at e2
    rw [e2, e1]
end Go.Proofs.Ytdhnhpjcoeglmaa


/- StartOf of the specification, and where its answer lies. -/
namespace Go.Proofs.Ytdhnhpjcoeglmaa
open Go.RowKit
set_option maxRecDepth 10000

/-- How one of the specification ends, its answer in new memory. -/
def WEndV (g : Bool) (r : List Int) (w : World) (e : Ending) (w' : World) : Prop :=
  ∃ a n c, e = .returned (.tuple #[.slice a n c, .bool g]) ∧ Row w' a n r ∧ (0 < n → ∀ o, a = some o → w.heap.size ≤ o.block) ∧ Below w.heap.size w w'

set_option maxHeartbeats 1000000 in
theorem one3_own (P s : Nat) (w : World) (hP : P ≤ 16) (hs : s < P) :
    Calls Try.prog 177 #[.int .i64 (P : Int), .int .i64 (s : Int)] w fun e w' => ∃ c, e = .returned (.slice (some ⟨w.heap.size, 0, none⟩) P c) ∧ Row w' (some ⟨w.heap.size, 0, none⟩) P (oneL P s) ∧ Below w.heap.size w w' := by
  have hmk := run_make_row' (P := Try.prog) 31 3 (.int .i64 0) 8 Try.underlying31 Try.info3 rfl .i64 .i64 P (by omega) (by omega)
  have hat : (madeCells #[.int .i64 0] P)[s]? = some (.int .i64 0) := by simp [madeCells, hs, Nat.mod_one]
  have hst : (madeCells #[.int .i64 0] P).setIfInBounds s (.int .i64 1) = cellsOf (oneL P s) := by
    apply Array.ext_getElem?
    intro i
    rw [Array.getElem?_setIfInBounds]
    by_cases hi : i < P
    · have h2 : (cellsOf (oneL P s))[i]? = some (.int .i64 (oneF s i)) := by unfold cellsOf oneL listF; simp [hi]
      rw [h2]
      by_cases e : s = i
      · subst e; simp [size_madeCells, hs, oneF]
      · rw [if_neg e]; simp [madeCells, hi, Nat.mod_one, oneF, show ¬ i = s by omega]
    · rw [Array.getElem?_eq_none (xs := cellsOf (oneL P s)) (by unfold cellsOf oneL; simp [listF_len]; omega), if_neg (by omega), Array.getElem?_eq_none (by rw [size_madeCells]; omega)]
  have HST := hide hst
  have hs1 : (s : Int) < (P : Int) := by omega
  clear hst
  go_enter Try.func177, Try.ntmps177
  go_wp2_with fail
  go_ret
  rw [HST.out]
  exact ⟨_, rfl, row_new w (oneL P s) P w.heap.size (by unfold oneL; exact listF_len _ _) rfl, below_al _ _⟩

set_option maxHeartbeats 1000000 in
theorem startS_own (p s t : Int) (a : Option Addr) (n c : Nat) (L : List (List Int)) (w : World) (h : Lists w a (3 * n) L) (hs : sizeN n L ≤ 1048576) :
    Calls Try.prog 154 #[.agg #[.int .i64 p, .slice a n c, .int .i64 s, .int .i64 t]] w fun e w' => WEndV (flowOk p n L s t) (oneR p n L s t s) w e w' := by
  have HA := hide (below_al w (.cells #[.int .i64 p, .slice a n c, .int .i64 s, .int .i64 t] 157))
  have PAR := hide (heap_alloc_new w (.cells #[.int .i64 p, .slice a n c, .int .i64 s, .int .i64 t] 157))
  have HF := hide (goodFlowS_any p s t a n c L _ (h.below HA.out) hs)
  clear h
  go_enter Try.func154, Try.ntmps154
  go_wp2_with fail
  refine HF.out.mono ?_
  rintro e w1 ⟨rfl, hb⟩
  have HB := hide (HA.out.trans (hb.mono HA.out.size))
  obtain ⟨⟨hc0, hc1, hc2, hc3⟩, _⟩ := cells4 (keep PAR.out hb)
  clear hb HF PAR
  by_cases hg : flowOk p n L s t = true
  rotate_left
  · have hg' : flowOk p n L s t = false := by simpa using hg
    have HN : Hid (WEndV (flowOk p n L s t) (oneR p n L s t s) w (.returned (.tuple #[.slice none 0 0, .bool false])) w1) :=
      ⟨none, 0, 0, by rw [hg'], ⟨by unfold oneR; rw [hg']; rfl, .inl rfl⟩, (fun h => absurd h (by omega)), HB.out⟩
    rw [hg']
    clear hg hg'
    go_wp2_with fail
    go_ret2
    exact HN.out
  obtain ⟨⟨hp1, hp2⟩, hn24, hs1, ht1⟩ := flow_num hg
  obtain ⟨P, rfl⟩ : ∃ P : Nat, p = (P : Int) := ⟨p.toNat, by omega⟩
  obtain ⟨Q, hQ⟩ : ∃ Q : Nat, s = (Q : Int) := ⟨s.toNat, by omega⟩
  have HG := hide hg
  rw [hg]
  subst hQ
  have HO := hide (fun W => one3_own P Q W (by omega) (by omega))
  clear hg
  go_wp2_with fail
  refine (HO.out _).mono ?_
  rintro e w2 ⟨c2, rfl, hrow, hb2⟩
  have HE : Hid (WEndV (flowOk (P : Int) n L (Q : Int) t) (oneR (P : Int) n L (Q : Int) t (Q : Int)) w (.returned (.tuple #[.slice (some ⟨w1.heap.size, 0, none⟩) P c2, .bool true])) w2) :=
    ⟨_, P, _, by rw [HG.out], by unfold oneR; rw [HG.out]; simpa using hrow, (fun _ o ho => by obtain rfl := Option.some.inj ho; exact HB.out.size), HB.out.trans (hb2.mono HB.out.size)⟩
  clear hrow hb2 HO
  go_wp2_with fail
  go_ret2
  exact HE.out

end Go.Proofs.Ytdhnhpjcoeglmaa
