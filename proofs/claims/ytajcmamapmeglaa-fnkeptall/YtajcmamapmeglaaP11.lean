/- Contracts that the proof stands on, one behind the other. -/
import Derived.Test.YtajcmamapmeglaaP10
/- The specification's l1Set, l7Row, l7Small. -/
namespace Go.Proofs.Ytajcmamapmeglaa
open Go.RowKit
set_option maxRecDepth 10000

theorem wraps_i64 (n : Int) (h₀ : 0 ≤ n) (h₁ : n < 2 ^ 62) : IntKind.i64.wrap n = n := by
  simp [IntKind.wrap, IntKind.bits, IntKind.signed]; omega

theorem and_i64 (a b : Nat) (ha : a < 2 ^ 62) (hb : b < 2 ^ 62) : bits .and .i64 (a : Int) (b : Int) = ((a &&& b : Nat) : Int) := (bits_nat .i64 62 (by decide) wraps_i64 a b ha hb).1

theorem bit_ofI (s k : Nat) (hs : s < 2 ^ 16) : (bits .and .i64 ((s : Int) / 2 ^ k) 1 == 1) = s.testBit k := by
  have h1 : ((s : Int) / 2 ^ k) = ((s / 2 ^ k : Nat) : Int) := by simp
  have h2 : s / 2 ^ k < 2 ^ 62 := Nat.lt_of_le_of_lt (Nat.div_le_self _ _) (Nat.lt_of_lt_of_le hs (by decide))
  have h3 := and_i64 (s / 2 ^ k) 1 h2 (by decide)
  rw [h1]
  rw [show ((1 : Nat) : Int) = (1 : Int) from rfl] at h3
  rw [h3, Nat.and_one_is_mod, Nat.testBit_eq_decide_div_mod_eq]
  by_cases h : s / 2 ^ k % 2 = 1
  · rw [h]; rfl
  · have h4 : s / 2 ^ k % 2 = 0 := by omega
    rw [h4]; rfl

theorem nums2_up {f : Nat → Bool} {k m : Nat} (hk : k ≤ m) (h : ∀ i, k ≤ i → f i = false) : nums2 f m = nums2 f k := by
  induction m with
  | zero => have : k = 0 := by omega
            subst this; rfl
  | succ m ih =>
    by_cases e : k = m + 1
    · subst e; rfl
    · rw [nums2_no (h m (by omega)), ih (by omega)]

theorem nums2_len (f : Nat → Bool) (k : Nat) : (nums2 f k).length ≤ k := by
  unfold nums2
  rw [List.length_map]
  have := List.length_filter_le f (List.range k)
  rwa [List.length_range] at this

/-- The list of a set, of the call's own. -/
def SetEnd (s : Nat) (w : World) (e : Ending) (w' : World) : Prop :=
  ∃ v m, e = .returned v ∧ w'.ownsRow w.heap.size 3 1 v m ((nums2 s.testBit 16).map (Value.int .i64)) ∧ Below w.heap.size w w'

set_option maxHeartbeats 2000000 in
theorem setS_any (s : Nat) (w : World) (hs : s < 1024) :
    Calls Try.prog 131 #[.int .i64 (s : Int)] w fun e w' => SetEnd s w e w' := by
  obtain ⟨i0, hi, hz0, hz1, hz2⟩ := info_split2 Try.info3
  go_enter Try.func131, Try.ntmps131
  go_wp2_with fail
  go_loopw [3, 4] (fun o i wr => ∃ k m : Nat, k ≤ 10 ∧ i = .int .i64 k ∧ Hid (m ≤ k) ∧ Hid (wr.ownsRow w.heap.size 3 1 o m ((nums2 s.testBit k).map (Value.int .i64))) ∧ Hid (Below w.heap.size w wr)) (fun _ i _ => 16 - (intOf i).toNat)
  case atStart => exact ⟨0, 0, Nat.zero_le _, rfl, Nat.le_refl _, World.ownsRow_nil _ _ _ _, Below.refl _ _⟩
  case round =>
    obtain ⟨k, m, hk, rfl, hmk, hown, hbw⟩ := hrel
    have hk0 : (0 : Int) ≤ (k : Int) := by omega
    by_cases hz : s / 2 ^ k = 0
    · have hd : ¬ (0 : Int) < (s : Int) / 2 ^ k := by
        have : ((s : Int) / 2 ^ k) = ((s / 2 ^ k : Nat) : Int) := by simp
        rw [this, hz]; decide
      have hlt : s < 2 ^ k := by rcases Nat.div_eq_zero_iff.mp hz with e | e; exact absurd e (by have := Nat.one_le_two_pow (n := k); omega); exact e
      have hn : nums2 s.testBit 16 = nums2 s.testBit k := nums2_up (by omega) fun i hi => Nat.testBit_lt_two_pow (Nat.lt_of_lt_of_le hlt (Nat.pow_le_pow_right (by decide) hi))
      have HE : Hid (SetEnd s w (.returned u3) wr) := ⟨_, m, rfl, by rw [hn]; exact hown.out, hbw.out⟩
      clear hn hlt hown hbw hmk hz
      go_wp2_with fail
      go_ret
      exact HE.out
    have hd : (0 : Int) < (s : Int) / 2 ^ k := by
      have : ((s : Int) / 2 ^ k) = ((s / 2 ^ k : Nat) : Int) := by simp
      rw [this]; exact Int.natCast_pos.mpr (Nat.pos_of_ne_zero hz)
    have hk10 : k < 10 := by
      rcases Nat.lt_or_ge k 10 with h | h
      · exact h
      · have : s < 2 ^ k := Nat.lt_of_lt_of_le (show s < 2 ^ 10 by omega) (Nat.pow_le_pow_right (by decide) h)
        exact absurd (Nat.div_eq_of_lt this) hz
    have hbit := bit_ofI s k (by omega)
    clear hz
    cases hh : s.testBit k
    · rw [hh] at hbit
      have HN := hide (nums2_no hh)
      clear hh
      go_wp2_with fail
      go_roundw
      case rel => exact ⟨k + 1, m, by omega, by go_num, Nat.le_succ_of_le hmk.out, by rw [HN.out]; exact hown, hbw⟩
      case measure => simp [intOf]; omega
    rw [hh] at hbit
    have HN := hide (nums2_yes hh)
    have hA2 := below_al wr (.cells #[.int .i64 (k : Int)] 3)
    have HO2 := hide (hown.out.alloc (.cells #[.int .i64 (k : Int)] 3))
    have HB2 := hide (hbw.out.trans (hA2.mono hbw.out.size))
    have HCE : Hid (∀ j u, ([.int .i64 (k : Int)] : List Value)[j]? = some u → (wr.alloc (.cells #[.int .i64 (k : Int)] 3)).cell? ((⟨wr.heap.size, 0, none⟩ : Addr).add j) = some u) := one_cell2 wr _
    have H1c : Hid (∀ u ∈ ([.int .i64 (k : Int)] : List Value), u.oneCell' = true) := fun u hu => by simp at hu; subst hu; rfl
    have HX := hide (show m + 1 ≤ maxLen by have := hmk.out; unfold maxLen; omega)
    have HY := hide (show (m + 1) * 8 ≤ 140737488355328 by have := hmk.out; omega)
    have HZ := hide HB2.out.size
    clear hA2 hown hbw hh
    go_wp2_with (refine wpList_append_own _ rfl (.tmp 18) (.tmp 20) 27 rfl w.heap.size 3 i0 (.int .i64 0) 1 8 Try.underlying27 hi hz0 hz1 hz2 rfl (by decide) u3 m _ rfl HO2.out ⟨_, 0, none⟩ 1 1 [.int .i64 (k : Int)] rfl rfl HCE.out H1c.out HX.out HY.out HZ.out ?_; intro v' W' r1 r2 r3)
    have HR1 : Hid (W'.ownsRow w.heap.size 3 1 v' (m + 1) ((nums2 s.testBit (k + 1)).map (Value.int .i64))) := by
      show World.ownsRow _ _ _ _ _ _ _
      rw [HN.out, List.map_append]; exact r1
    have HB3 := hide (own_below2 HO2.out r2 HB2.out HB2.out.size (Nat.le_refl _))
    clear r1 r2 r3
    go_wp2_with fail
    go_roundw
    case rel => exact ⟨k + 1, m + 1, by omega, by go_num, Nat.succ_le_succ hmk.out, HR1, HB3⟩
    case measure => simp [intOf]; omega

theorem mem_nums2 {s j : Nat} : (j : Int) ∈ nums2 s.testBit 16 ↔ j < 16 ∧ s.testBit j = true := by
  unfold nums2
  simp only [List.mem_map, List.mem_filter, List.mem_range]
  constructor
  · rintro ⟨i, ⟨h1, h2⟩, e⟩
    have : i = j := by omega
    subst this; exact ⟨h1, h2⟩
  · rintro ⟨h1, h2⟩; exact ⟨j, ⟨h1, h2⟩, rfl⟩

theorem nums2_lo {s : Nat} {x : Int} (h : x ∈ nums2 s.testBit 16) : 0 ≤ x ∧ x < 16 ∧ s.testBit x.toNat = true := by
  unfold nums2 at h
  simp only [List.mem_map, List.mem_filter, List.mem_range] at h
  obtain ⟨i, ⟨h1, h2⟩, rfl⟩ := h
  exact ⟨by omega, by omega, h2⟩

/-- A row of zeros in which the places xs have been set to 1. -/
def onesL (P : Nat) (xs : List Int) : List Int := updL (fun _ => 1) xs (List.replicate P 0)

theorem onesL_len (P : Nat) (xs : List Int) : (onesL P xs).length = P := by unfold onesL; rw [updL_len]; simp

theorem onesL_at {P : Nat} {xs : List Int} (h : ∀ x ∈ xs, 0 ≤ x) {i : Nat} (hi : i < P) : (onesL P xs).getD i 0 = if (i : Int) ∈ xs then 1 else 0 := by
  unfold onesL
  induction xs using snoc_ind with
  | h0 => show (List.replicate P (0 : Int)).getD i 0 = _; simp [List.getD_eq_getElem?_getD, hi]
  | h1 xs x ih =>
    have ih' := ih fun y hy => h y (by simp [hy])
    have hx := h x (by simp)
    rw [updL_snoc, List.getD_eq_getElem?_getD, List.getElem?_set, updL_len]
    by_cases e : x.toNat = i
    · rw [if_pos e, if_pos (by simp; omega), if_pos (by simp; right; omega)]; rfl
    · rw [if_neg e, ← List.getD_eq_getElem?_getD, ih']
      have hne : (i : Int) ≠ x := by omega
      by_cases hm : (i : Int) ∈ xs
      · rw [if_pos hm, if_pos (by simp [hm])]
      · rw [if_neg hm, if_neg (by simp [hm, hne])]

theorem ones_row {P s : Nat} (hP : P ≤ 10) : onesL P (nums2 s.testBit 16) = rowB s P := by
  apply list_byD
  · rw [onesL_len]; unfold rowB; rw [listF_len]
  · intro i hi
    unfold rowB at hi ⊢
    rw [listF_len] at hi
    rw [onesL_at (fun x hx => (nums2_lo hx).1) hi, listF_at _ _ _ hi]
    by_cases hb : s.testBit i = true
    · rw [if_pos (mem_nums2.mpr ⟨by omega, hb⟩), if_pos hb]
    · rw [if_neg (fun h => hb (mem_nums2.mp h).2), if_neg hb]

theorem Ob.far {w : World} {a : Option Addr} {b n g o : Nat} {u : Value} {xs : List Int} (h : Ob w a b n xs) (hg : b ≠ g) : Ob (w.setCell ⟨g, o, none⟩ u) a b n xs := by
  refine ⟨h.1, ?_⟩
  rcases h.2 with h0 | ⟨e, cur, h1, h2⟩
  · exact .inl h0
  · exact .inr ⟨e, cur, (heap_setCell_other _ _ _ _ (show b ≠ g from hg)).trans h1, h2⟩

set_option maxHeartbeats 2000000 in
theorem rowS_any (P s : Nat) (a : Option Addr) (n c : Nat) (w : World) (hs : s < 2 ^ P) (hP : P ≤ 10) :
    Calls Try.prog 130 #[.agg #[.int .i64 (P : Int), .slice a n c], .int .i64 (s : Int)] w fun e w' => ∃ g, e = .returned (.slice (some ⟨g, 0, none⟩) P P) ∧ w.heap.size ≤ g ∧ OutR w' g P (rowB s P) ∧ Below w.heap.size w w' := by
  have hs10 : s < 1024 := Nat.lt_of_lt_of_le hs (shl_powP hP)
  have hmk := run_make_many (P := Try.prog) 27 3 (.int .i64 0) 1 8 Try.underlying27 Try.info3 .i64 .i64 P (by omega) (by omega)
  simp only [Value.cells, Nat.mul_one] at hmk
  have HB := hide (below_al w (.cells #[.int .i64 (P : Int), .slice a n c] 26))
  have HIN := hide (show ∀ x ∈ nums2 s.testBit 16, 0 ≤ x ∧ x < (P : Int) from fun x hx => by
    have h1 := nums2_lo hx
    refine ⟨h1.1, ?_⟩
    rcases Nat.lt_or_ge x.toNat P with h | h
    · omega
    · rw [Nat.testBit_lt_two_pow (Nat.lt_of_lt_of_le hs (Nat.pow_le_pow_right (by decide) h))] at h1
      simp at h1)
  go_enter Try.func130, Try.ntmps130
  go_wp2_with fail
  have hvs : Hid ((w.alloc (.cells #[.int .i64 (P : Int), .slice a n c] 26)).heap.size = w.heap.size + 1) := by show _ = _; simp
  generalize w.alloc (.cells #[.int .i64 (P : Int), .slice a n c] 26) = v at *
  have HO : Hid (OutR (v.alloc (.cells (madeCells #[.int .i64 0] P) 3)) v.heap.size P (onesL P [])) := by
    show OutR _ _ _ _
    have := outF_made v (fun _ => 0) P
    have e : outF (fun _ => 0) 0 P = onesL P [] := by
      show _ = List.replicate P 0
      unfold outF listF
      rw [List.eq_replicate_iff]
      exact ⟨by simp, by simp⟩
    rw [← e]; exact this
  rw [hvs.out] at HO
  have hA := below_al v (.cells (madeCells #[.int .i64 0] P) 3)
  have HW := hide (HB.out.trans (hA.mono HB.out.size))
  generalize v.alloc (.cells (madeCells #[.int .i64 0] P) 3) = v1 at *
  obtain ⟨g, hg⟩ : ∃ g, Hid (w.heap.size + 1 = g) := ⟨_, rfl⟩
  have hgw : w.heap.size < g := by have := hg.out; omega
  rw [hg.out] at HO ⊢
  clear hmk hA HB hg hvs v
  refine (setS_any s v1 hs10).mono ?_
  rintro e w2 ⟨v2, m, rfl, hown, hb⟩
  obtain ⟨a2, b2, c2, rfl, hb2, hrow⟩ := own_ob2 hown
  have HO2 := hide (HO.out.grow hb)
  have HW2 := hide (HW.out.trans (hb.mono HW.out.size))
  have HRW := hide hrow
  have hm16 : m ≤ 16 := by have h1 := hrow.1; have h2 := nums2_len s.testBit 16; omega
  have hsz : g < v1.heap.size := by obtain ⟨_, cur, hh, _⟩ := HO.out; exact (Array.getElem?_eq_some_iff.mp hh).1
  have hbg : b2 ≠ g := by omega
  clear hown hrow HO HW hb
  go_wp2_with fail
  go_loopw [14] (fun i wr => ∃ k : Nat, k ≤ m ∧ i = .int .i64 k ∧ Hid (OutR wr g P (onesL P ((nums2 s.testBit 16).take k))) ∧ Hid (Ob wr a2 b2 m (nums2 s.testBit 16)) ∧ Hid (Below w.heap.size w wr)) (fun i _ => m - (intOf i).toNat)
  case atStart => exact ⟨0, Nat.zero_le _, rfl, HO2, HRW, HW2⟩
  case round =>
    obtain ⟨k, hk, rfl, ho, hrw, hbw⟩ := hrel
    clear HO2 HRW HW2
    by_cases hkm : k < m
    rotate_left
    · have hk' : m = k := by omega
      subst hk'
      have HE := ho.out
      rw [List.take_of_length_le (by have := hrw.out.1; omega), ones_row hP] at HE
      have HE := hide HE
      clear ho
      go_wp2_with fail
      go_ret
      exact ⟨g, rfl, by omega, HE.out, hbw.out⟩
    obtain ⟨b1, o1, x, rfl, hl1, hc1, H1⟩ := hrw.out.row.at hkm
    have hxm := HIN.out x (List.mem_of_getElem? H1.out)
    obtain ⟨z, rfl⟩ : ∃ z : Nat, x = (z : Int) := ⟨x.toNat, by omega⟩
    have hzn : (z : Int) < (P : Int) := hxm.2
    have HU : Hid (onesL P ((nums2 s.testBit 16).take (k + 1)) = (onesL P ((nums2 s.testBit 16).take k)).set z 1) := by
      show _ = _
      have := updL_take (fun _ => 1) (nums2 s.testBit 16) (List.replicate P 0) k _ H1.out
      rw [Int.toNat_natCast] at this
      exact this
    obtain ⟨hle, cur, hh, hcs, hcell⟩ := ho.out
    have hfr := frozen_of_row wr g z cur _ hh
    have hcy := cell_of_row wr g z cur _ _ hh
    rw [hcell z (by omega)] at hcy
    have hgl := (Array.getElem?_eq_some_iff.mp hh).1
    obtain ⟨y, hyy⟩ : ∃ y, Hid ((onesL P ((nums2 s.testBit 16).take k)).getD z 0 = y) := ⟨_, rfl⟩
    rw [hyy.out] at hcy
    have HN : Hid (OutR (wr.setCell ⟨g, z, none⟩ (.int .i64 1)) g P (onesL P ((nums2 s.testBit 16).take (k + 1)))) := by
      show OutR _ _ _ _
      rw [HU.out]; exact ho.out.set z (by omega) _
    have HBN := hide (hbw.out.setCell (p := ⟨g, z, none⟩) (by show w.heap.size ≤ g; omega) (.int .i64 1))
    have HRN := hide (hrw.out.far (o := z) (u := .int .i64 1) hbg)
    clear ho hbw hh hcell hcs hle hyy H1 HU hxm HIN hrw
    go_wp2_with fail
    go_roundw
    case rel => exact ⟨k + 1, by omega, by go_num, HN, HRN, HBN⟩
    case measure => simp [intOf]; omega
end Go.Proofs.Ytajcmamapmeglaa


/- The specification's l7Small and SmallInvariants. -/
namespace Go.Proofs.Ytajcmamapmeglaa
open Go.RowKit
set_option maxRecDepth 10000

theorem smallR_yes {f : Nat → Bool} {r : Nat} (hr : 1 ≤ r) (h1 : f r = true) (h2 : subA (smallN f (r - 1)) r = false) : smallN f r = smallN f (r - 1) ++ [r] := by
  obtain ⟨k, rfl⟩ : ∃ k, r = k + 1 := ⟨r - 1, by omega⟩
  exact smallN_yes h1 h2
theorem smallR_no {f : Nat → Bool} {r : Nat} (hr : 1 ≤ r) (h : (f r && !subA (smallN f (r - 1)) r) = false) : smallN f r = smallN f (r - 1) := by
  obtain ⟨k, rfl⟩ : ∃ k, r = k + 1 := ⟨r - 1, by omega⟩
  show (if _ then _ else _) = _
  have h' : (f (k + 1) && !(smallN f k).any (fun q => decide (q &&& (k + 1) = q))) = false := h
  rw [h']; rfl

def encI (l : List Nat) : List Value := l.map fun (s : Nat) => Value.int .i64 (s : Int)

/-- Lists that an append has piled up, each of them one that an append has made. -/
def LRow (w : World) (B : Nat) (v : Value) (K : List (List Int)) : Prop :=
  ∃ cs, w.ownsRow B 27 1 v K.length cs ∧ ∀ i, i < K.length → ∃ a b n c, cs[i]? = some (.slice a n c) ∧ Ob w a b n (K.getD i []) ∧ B ≤ b

theorem LRow.nil (w : World) (B : Nat) : LRow w B (.slice none 0 0) [] := ⟨[], World.ownsRow_nil _ _ _ _, fun i hi => absurd hi (by simp)⟩

theorem LRow.grow {w w' : World} {B : Nat} {v : Value} {K : List (List Int)} (h : LRow w B v K) (hb : Below w.heap.size w w') : LRow w' B v K := by
  obtain ⟨cs, h1, h2⟩ := h
  refine ⟨cs, own_growK h1 hb, fun i hi => ?_⟩
  obtain ⟨a, b, n, c, e, ho, hB⟩ := h2 i hi
  exact ⟨a, b, n, c, e, ho.grow hb, hB⟩

theorem own_kept {w w' : World} {B n : Nat} {v : Value} {T U : TypeId} {xs ys : List Value} {v2 : Value} {m : Nat} (h : w.ownsRow B T 1 v n xs) (h2 : w.ownsRow B U 1 v2 m ys) (hTU : T ≠ U) (hg : w.grownBy w' v2.ownBlock) : w'.ownsRow B T 1 v n xs := by
  refine ⟨h.1, ?_⟩
  rcases h.2 with h0 | ⟨g, cap, cur, e, a1, a2, a3⟩
  · exact .inl h0
  · refine .inr ⟨g, cap, cur, e, a1, ?_, a3⟩
    rw [hg.block g (Array.getElem?_eq_some_iff.mp a2).1 ?_]; exact a2
    intro hh
    rcases h2.2 with ⟨rfl, _⟩ | ⟨g2, cap2, cur2, rfl, b1, b2, _⟩
    · simp [Value.ownBlock] at hh
    · simp [Value.ownBlock] at hh
      subst hh
      rw [a2] at b2
      simp at b2
      exact hTU b2.2

theorem Ob.kept {w w' : World} {B : Nat} {a : Option Addr} {b n : Nat} {xs : List Int} {ys : List Value} {v2 : Value} {m : Nat} (h : Ob w a b n xs) (h2 : w.ownsRow B 27 1 v2 m ys) (hg : w.grownBy w' v2.ownBlock) : Ob w' a b n xs := by
  refine ⟨h.1, ?_⟩
  rcases h.2 with h0 | ⟨e, cur, a2, a3⟩
  · exact .inl h0
  · refine .inr ⟨e, cur, ?_, a3⟩
    rw [hg.block b (Array.getElem?_eq_some_iff.mp a2).1 ?_]; exact a2
    intro hh
    rcases h2.2 with ⟨rfl, _⟩ | ⟨g2, cap2, cur2, rfl, b1, b2, _⟩
    · simp [Value.ownBlock] at hh
    · simp [Value.ownBlock] at hh
      subst hh
      rw [a2] at b2
      simp at b2

theorem LRow.push {w w' : World} {B : Nat} {v v' : Value} {K : List (List Int)} {cs : List Value} {a : Option Addr} {b n c : Nat} {xs : List Int} (h1 : w.ownsRow B 27 1 v K.length cs) (h2 : ∀ i, i < K.length → ∃ a b n c, cs[i]? = some (.slice a n c) ∧ Ob w a b n (K.getD i []) ∧ B ≤ b)
    (ho : Ob w a b n xs) (hB : B ≤ b) (hown : w'.ownsRow B 27 1 v' (K.length + 1) (cs ++ [.slice a n c])) (hg : w.grownBy w' v.ownBlock) : LRow w' B v' (K ++ [xs]) := by
  have hcl : cs.length = K.length := by have := h1.1; omega
  refine ⟨cs ++ [.slice a n c], by rw [List.length_append]; exact hown, fun i hi => ?_⟩
  by_cases hi2 : i < K.length
  · obtain ⟨a1, b1, n1, c1, e, ho1, hB1⟩ := h2 i hi2
    refine ⟨a1, b1, n1, c1, by rw [List.getElem?_append_left (by omega)]; exact e, ?_, hB1⟩
    rw [List.getD_eq_getElem?_getD, List.getElem?_append_left hi2, ← List.getD_eq_getElem?_getD]
    exact ho1.kept h1 hg
  · rw [List.length_append, List.length_singleton] at hi
    have : i = K.length := by omega
    subst this
    refine ⟨a, b, n, c, by rw [List.getElem?_append_right (by omega), hcl]; simp, ?_, hB⟩
    rw [List.getD_eq_getElem?_getD, List.getElem?_append_right (Nat.le_refl _)]
    simp
    exact ho.kept h1 hg

theorem LRow.lists {w : World} {B : Nat} {v : Value} {K : List (List Int)} (h : LRow w B v K) (hl : ∀ i, (K.getD i []).length ≤ 16) : ∃ a c, v = .slice a K.length c ∧ Lists w a K.length K := by
  obtain ⟨cs, h1, h2⟩ := h
  rcases h1.2 with ⟨rfl, e0⟩ | ⟨g, cap, cur, rfl, hb, hh, hnc, _, hsz, ht⟩
  · exact ⟨none, 0, by rw [e0], rfl, .inl e0⟩
  · refine ⟨_, cap, rfl, rfl, .inr ⟨g, 0, rfl, (Array.getElem?_eq_some_iff.mp hh).1, fun j hj => ?_⟩⟩
    obtain ⟨a, b, n, c, e, ho, _⟩ := h2 j hj
    refine ⟨a, n, c, ?_, by have := ho.1; have := hl j; unfold maxLen; omega, ho.row⟩
    rw [cell_of_row w g (0 + j) cur _ _ hh, Nat.zero_add]
    have e2 : (cur.toList.take (K.length * 1))[j]? = cs[j]? := by rw [ht]
    rw [List.getElem?_take_of_lt (by omega), Array.getElem?_toList] at e2
    rw [e2]; exact e

theorem rowB_bound (s P : Nat) : ∀ i, -1000 ≤ (rowB s P).getD i 0 ∧ (rowB s P).getD i 0 ≤ 1000 := by
  intro i
  unfold rowB
  by_cases hi : i < P
  · rw [listF_at _ _ _ hi]; split <;> omega
  · rw [List.getD_eq_getElem?_getD, List.getElem?_eq_none (by rw [listF_len]; omega)]; simp

theorem numRow_at {w : World} {B n : Nat} {v : Value} {l : List Nat} (h : w.ownsRow B 3 1 v n (encI l)) {k : Nat} (hk : k < n) : ∃ g c, v = .slice (some ⟨g, 0, none⟩) n c ∧ g < w.heap.size ∧ w.cell? ⟨g, k, none⟩ = some (.int .i64 ((l.getD k 0 : Nat) : Int)) ∧ l[k]? = some (l.getD k 0) := by
  have hl : l.length = n := by have := h.1; simp [encI] at this; omega
  rcases h.2 with ⟨rfl, rfl⟩ | ⟨g, cap, cur, rfl, hb, hh, hnc, _, hsz, ht⟩
  · omega
  · refine ⟨g, cap, rfl, (Array.getElem?_eq_some_iff.mp hh).1, ?_, ?_⟩
    · rw [cell_of_row w g k cur _ _ hh]
      have e : (cur.toList.take (n * 1))[k]? = (encI l)[k]? := by rw [ht]
      rw [List.getElem?_take_of_lt (by omega), Array.getElem?_toList] at e
      rw [e]
      simp [encI, List.getElem?_eq_getElem (show k < l.length by omega), List.getD_eq_getElem?_getD]
    · rw [List.getD_eq_getElem?_getD, List.getElem?_eq_getElem (by omega)]; rfl

theorem Try.info27k : (Try.prog.info? 27).map (fun i => (i.zero, i.size, i.bytes)) = some (some (.slice none 0 0), 1, 24) := by kernel_rfl
theorem Try.und43k : Try.prog.underlying 43 = some (.slice 27) := by kernel_rfl

/-- The lists of some sets. -/
def listsN (l : List Nat) : List (List Int) := l.map fun s => nums2 s.testBit 16

theorem listsN_len (l : List Nat) : (listsN l).length = l.length := by simp [listsN]
theorem listsN_take {l : List Nat} {k s : Nat} (h : l[k]? = some s) : listsN (l.take (k + 1)) = listsN (l.take k) ++ [nums2 s.testBit 16] := by
  unfold listsN
  rw [List.take_add_one, h, List.map_append]; rfl
theorem listsN_at (l : List Nat) (i : Nat) : ((listsN l).getD i []).length ≤ 16 := by
  unfold listsN
  rw [List.getD_eq_getElem?_getD, List.getElem?_map]
  cases h : l[i]? with
  | none => simp
  | some s => simp; exact nums2_len _ _

set_option maxHeartbeats 8000000 in
theorem smallS_any (P : Nat) (a : Option Addr) (n c : Nat) (L : List (List Int)) (w : World) (h : Lists w a (3 * n) L) (hg : netOk (P : Int) n L = true) (hP : P ≤ 10) :
    Calls Try.prog 82 #[.agg #[.int .i64 (P : Int), .slice a n c]] w fun e w' => ∃ v, e = .returned v ∧ LRow w' w.heap.size v (listsN (smallN (fun s => invB (rowB s P) n L) (2 ^ P - 1))) ∧ Below w.heap.size w w' := by
  have hAl := below_al w (.cells #[.int .i64 (P : Int), .slice a n c] 26)
  have HV := hide (heap_alloc_new w (.cells #[.int .i64 (P : Int), .slice a n c] 26))
  have HL := hide h
  have HG := hide hg
  have HB0 := hide hAl
  obtain ⟨i0, hi, hz0, hz1, hz2⟩ := info_split2 Try.info3
  obtain ⟨i1, hi1, hy0, hy1, hy2⟩ := info_split2 Try.info27k
  obtain ⟨M, hM⟩ : ∃ M : Nat, Hid ((2 : Nat) ^ P = M) := ⟨_, rfl⟩
  have hM1 : M ≤ 1024 := by rw [← hM.out]; exact shl_powP hP
  have hM0 : 1 ≤ M := by rw [← hM.out]; exact Nat.one_le_two_pow
  have hMi : ((2 : Int) ^ P) = (M : Int) := by rw [← hM.out]; simp
  have hP0 : (0 : Int) ≤ (P : Int) := by omega
  have hP10 : P ≤ 10 := hP
  rw [hM.out]
  obtain ⟨f, hf⟩ : ∃ f, Hid ((fun s => invB (rowB s P) n L) = f) := ⟨_, rfl⟩
  rw [hf.out]
  clear h hg hAl
  go_enter Try.func82, Try.ntmps82
  go_wp2_with fail
  generalize w.alloc (.cells #[.int .i64 (P : Int), .slice a n c] 26) = v0 at *
  go_loopw [3, 4] (fun o i wr => ∃ r m : Nat, 1 ≤ r ∧ r ≤ M ∧ i = .int .i64 r ∧ Hid (m = (smallN f (r - 1)).length) ∧ Hid (wr.ownsRow w.heap.size 3 1 o m (encI (smallN f (r - 1)))) ∧ Hid (wr.heap[w.heap.size]? = some (.cells #[.int .i64 (P : Int), .slice a n c] 26 (0, 0))) ∧ Hid (Below w.heap.size w wr)) (fun _ i _ => M + 1 - (intOf i).toNat)
  case atStart => exact ⟨1, 0, Nat.le_refl _, hM0, rfl, rfl, World.ownsRow_nil _ _ _ _, HV, HB0⟩
  case round =>
    obtain ⟨r, m, hr1, hr2, rfl, hmk, hown, hv, hbw⟩ := hrel
    clear HV HB0
    obtain ⟨hc0, hc1⟩ := cells2 hv.out
    have hlt := row_lt hv.out
    have hml : m ≤ r - 1 := by rw [hmk.out]; exact smallN_len _ _
    by_cases hrM : r < M
    rotate_left
    · have hrM' : M = r := by omega
      subst hrM'
      obtain ⟨l, hl⟩ : ∃ l, Hid (smallN f (M - 1) = l) := ⟨_, rfl⟩
      rw [hl.out] at hown hmk
      have hl10 : Hid (∀ s ∈ l, s < 1024) := fun s hs => by rw [← hl.out] at hs; have := smallN_mem hs; omega
      obtain ⟨a3, c3, rfl⟩ := own_slice hown.out
      have hml3 : m ≤ 1024 := by omega
      go_wp2_with fail
      go_loopw [8, 46] (fun o i wr => ∃ k : Nat, k ≤ m ∧ i = .int .i64 k ∧ Hid (LRow wr w.heap.size o (listsN (l.take k))) ∧ Hid (wr.ownsRow w.heap.size 3 1 (.slice a3 m c3) m (encI l)) ∧ Hid (Below w.heap.size w wr)) (fun _ i _ => m - (intOf i).toNat)
      case atStart => exact ⟨0, Nat.zero_le _, rfl, LRow.nil _ _, hown, hbw⟩
      case round =>
        obtain ⟨k, hk, rfl, hlr, how, hbw⟩ := hrel
        by_cases hkm : k < m
        rotate_left
        · have hk' : m = k := by omega
          subst hk'
          have h1 := hlr.out
          rw [List.take_of_length_le (by rw [← hmk.out]; exact Nat.le_refl _)] at h1
          have HE : Hid (∃ v, Ending.returned u8 = .returned v ∧ LRow wr w.heap.size v (listsN (smallN f (M - 1))) ∧ Below w.heap.size w wr) := ⟨u8, rfl, by rw [hl.out]; exact h1, hbw.out⟩
          clear h1 hlr how hbw
          go_wp2_with fail
          go_ret
          exact HE.out
        obtain ⟨g, c2, ev, hgl, hcg, hlk⟩ := numRow_at how.out hkm
        injection ev with e1 _ e3
        subst e1 e3
        have hs := hl10.out _ (List.mem_of_getElem? hlk)
        have HLN := hide (listsN_take hlk)
        obtain ⟨s, hss⟩ : ∃ s, Hid (l.getD k 0 = s) := ⟨_, rfl⟩
        rw [hss.out] at hcg hs HLN
        clear hlk hss
        go_wp2_with fail
        refine (setS_any s wr hs).mono ?_
        rintro e w1 ⟨v2, m2, rfl, ho2, hb⟩
        obtain ⟨a4, b4, c4, rfl, hb4, hob⟩ := own_ob2 ho2
        have HB1 := hide (hbw.out.trans (hb.mono hbw.out.size))
        have HW1 := hide (own_growK how.out hb)
        have hb4w : w.heap.size ≤ b4 := by have := hbw.out.size; omega
        have hA2 := below_al w1 (.cells #[.slice a4 m2 c4] 27)
        have HOB2 := hide (hob.grow hA2)
        have HW2 := hide (own_growK HW1.out hA2)
        have HB2 := hide (HB1.out.trans (hA2.mono HB1.out.size))
        obtain ⟨cs, hl1, hl2⟩ := (hlr.out.grow hb).grow hA2
        have hKl : (listsN (l.take k)).length = k := by rw [listsN_len, List.length_take]; have := hmk.out; omega
        have HL1 := hide hl1
        have HL2 := hide hl2
        have HO3 := hl1
        rw [hKl] at HO3
        have HO3 := hide HO3
        have HCE : Hid (∀ j u, ([.slice a4 m2 c4] : List Value)[j]? = some u → (w1.alloc (.cells #[.slice a4 m2 c4] 27)).cell? ((⟨w1.heap.size, 0, none⟩ : Addr).add j) = some u) := one_cellK w1 _ _
        have H1c : Hid (∀ u ∈ ([.slice a4 m2 c4] : List Value), u.oneCell' = true) := fun u hu => by simp at hu; subst hu; rfl
        have HX := hide (show k + 1 ≤ maxLen by unfold maxLen; omega)
        have HY := hide (show (k + 1) * 24 ≤ 140737488355328 by omega)
        have HZ := hide HB2.out.size
        clear hb ho2 hob hA2 hl1 hl2 HB1 HW1 hlr how hbw hcg hgl hs
        go_wp2_with (refine wpList_append_own _ rfl (.tmp 50) (.tmp 53) 43 rfl w.heap.size 27 i1 (.slice none 0 0) 1 24 Try.und43k hi1 hy0 hy1 hy2 rfl (by decide) _ k _ rfl HO3.out ⟨_, 0, none⟩ 1 1 [.slice a4 m2 c4] rfl rfl HCE.out H1c.out HX.out HY.out HZ.out ?_; intro v' W' r1 r2 r3)
        have HR1 : Hid (LRow W' w.heap.size v' (listsN (l.take (k + 1)))) := by
          show LRow _ _ _ _
          rw [HLN.out]
          exact LRow.push HL1.out HL2.out HOB2.out hb4w (by rw [hKl]; exact r1) r2
        have HW3 := hide (own_kept HW2.out HO3.out (by decide) r2)
        have HB3 := hide (own_belowK HO3.out r2 HB2.out HB2.out.size (Nat.le_refl _))
        clear r1 r2 r3 HO3 HL1 HL2 HOB2 HW2 HB2 HLN
        go_wp2_with fail
        go_roundw
        case rel => exact ⟨k + 1, by omega, by go_num, HR1, HW3, HB3⟩
        case measure => simp [intOf]; omega
    have hr2P : r < 2 ^ P := by rw [hM.out]; exact hrM
    have HBD := hide hbw.out.drew
    have HHD : Hid (wr.drew.heap.size = wr.heap.size) := rfl
    go_wp2_with fail
    have HWC : wr.drew.cell? ⟨w.heap.size, 0, none⟩ = some (.int .i64 (P : Int)) ∧ wr.drew.cell? ⟨w.heap.size, 1, none⟩ = some (.slice a n c) := ⟨hc0, hc1⟩
    go_region_held3 (fun W => W.cell? ⟨w.heap.size, 0, none⟩ = some (.int .i64 (P : Int)) ∧ W.cell? ⟨w.heap.size, 1, none⟩ = some (.slice a n c)) (first | (refine ⟨?_, ?_⟩ <;> simp only [World.cell?_drew] <;> assumption) | (apply keepB2; assumption; assumption))
      (first
        | (go_at_call 130; refine (rowS_any P r a n c _ hr2P hP10).mono ?_; rintro e w1 ⟨g1, rfl, hg1, ho1, hb1⟩)
        | (go_at_call 57; refine (invS_any P a (some ⟨g1, 0, none⟩) n c P P L (rowB r P) _ (HL.out.below (HBD.out.trans (hb1.mono HBD.out.size))) ho1.row (Nat.le_refl _) HG.out (rowB_bound r P)).mono ?_; rintro e w2 ⟨rfl, hb2⟩))
    have HB2 := hide ((HBD.out.trans (hb1.mono HBD.out.size)).trans (hb2.mono (by have h1 := HBD.out.size; have h2 := hb1.size; omega)))
    have HO2 := hide (own_growK (own_growK (own_growK hown.out (Below.refl _ wr).drew) hb1) hb2)
    have HV2 := hide (keep (keep (show wr.drew.heap[w.heap.size]? = some (.cells #[.int .i64 (P : Int), .slice a n c] 26 (0, 0)) from hv.out) hb1) hb2)
    obtain ⟨b0, hb0⟩ : ∃ b, Hid (invB (rowB r P) n L = b) := ⟨_, rfl⟩
    have hfr : Hid (f r = b0) := by show _ = _; rw [← hf.out]; exact hb0.out
    rw [hb0.out]
    obtain ⟨l, hl⟩ : ∃ l, Hid (smallN f (r - 1) = l) := ⟨_, rfl⟩
    rw [hl.out] at HO2 hmk
    have hl10 : Hid (∀ s ∈ l, s < 1024) := fun s hs => by rw [← hl.out] at hs; have := smallN_mem hs; omega
    have hm1k : m ≤ 1024 := by omega
    obtain ⟨a3, c3, rfl⟩ := own_slice HO2.out
    clear ho1 hb1 hb2 hg1 hown hv hbw HBD HHD HWC hc0 hc1 hlt hb0 hr2P
    go_wp2_with fail
    go_loop [5, 26] (fun o i => ∃ k : Nat, k ≤ m ∧ i = .int .i64 k ∧ o = .bool (b0 && !subA (l.take k) r)) (fun _ i => m - (intOf i).toNat)
    case atStart => exact ⟨0, Nat.zero_le _, rfl, by simp [subA]⟩
    case round =>
      obtain ⟨k, hk, rfl, rfl⟩ := hrel
      by_cases hkm : k < m
      rotate_left
      · have hk' : m = k := by omega
        subst hk'
        rw [List.take_of_length_le (by rw [← hmk.out]; exact Nat.le_refl _)]
        obtain ⟨q, hq⟩ : ∃ q, Hid ((b0 && !subA l r) = q) := ⟨_, rfl⟩
        rw [hq.out]
        have hrr : (r : Int) + 1 ≤ 1025 := by omega
        cases q
        · have HN : Hid (smallN f r = l) := by show _ = _; rw [smallR_no hr1 (by rw [hl.out, hfr.out]; exact hq.out)]; exact hl.out
          have HMK2 : Hid (m = (smallN f (r + 1 - 1)).length) := by show _ = _; rw [Nat.add_sub_cancel, HN.out]; exact hmk.out
          have HO3 : Hid (w2.ownsRow w.heap.size 3 1 (.slice a3 m c3) m (encI (smallN f (r + 1 - 1)))) := by show World.ownsRow _ _ _ _ _ _ _; rw [Nat.add_sub_cancel, HN.out]; exact HO2.out
          clear hq HO2 hmk HN
          go_wp2_with fail
          go_roundw
          case rel => exact ⟨r + 1, m, by omega, by omega, by go_num, HMK2, HO3, HV2, HB2⟩
          case measure => simp [intOf]; omega
        · have hq2 := hq.out
          simp only [Bool.and_eq_true, Bool.not_eq_true'] at hq2
          have HN : Hid (smallN f r = l ++ [r]) := by show _ = _; rw [smallR_yes hr1 (by rw [hfr.out]; exact hq2.1) (by rw [hl.out]; exact hq2.2), hl.out]
          have hA2 := below_al w2 (.cells #[.int .i64 (r : Int)] 3)
          have HO3 := hide (HO2.out.alloc (.cells #[.int .i64 (r : Int)] 3))
          have HB3 := hide (HB2.out.trans (hA2.mono HB2.out.size))
          have HV3 := hide (keep HV2.out hA2)
          have HCE : Hid (∀ j u, ([.int .i64 (r : Int)] : List Value)[j]? = some u → (w2.alloc (.cells #[.int .i64 (r : Int)] 3)).cell? ((⟨w2.heap.size, 0, none⟩ : Addr).add j) = some u) := one_cell2 w2 _
          have H1c : Hid (∀ u ∈ ([.int .i64 (r : Int)] : List Value), u.oneCell' = true) := fun u hu => by simp at hu; subst hu; rfl
          have HX := hide (show m + 1 ≤ maxLen by unfold maxLen; omega)
          have HY := hide (show (m + 1) * 8 ≤ 140737488355328 by omega)
          have HZ := hide HB3.out.size
          clear hA2 hq hq2 HO2 HB2 HV2
          go_wp2_with (refine wpList_append_own _ rfl (.tmp 40) (.tmp 42) 27 rfl w.heap.size 3 i0 (.int .i64 0) 1 8 Try.underlying27 hi hz0 hz1 hz2 rfl (by decide) _ m _ rfl HO3.out ⟨_, 0, none⟩ 1 1 [.int .i64 (r : Int)] rfl rfl HCE.out H1c.out HX.out HY.out HZ.out ?_; intro v' W' r1 r2 r3)
          have HR1 : Hid (W'.ownsRow w.heap.size 3 1 v' (m + 1) (encI (smallN f (r + 1 - 1)))) := by
            show World.ownsRow _ _ _ _ _ _ _
            rw [Nat.add_sub_cancel, HN.out, encI, List.map_append]
            exact r1
          have HMK2 : Hid (m + 1 = (smallN f (r + 1 - 1)).length) := by show _ = _; rw [Nat.add_sub_cancel, HN.out, List.length_append, ← hmk.out]; rfl
          have HB4 := hide (own_belowK HO3.out r2 HB3.out HB3.out.size (Nat.le_refl _))
          have HV4 : Hid (W'.heap[w.heap.size]? = some (.cells #[.int .i64 (P : Int), .slice a n c] 26 (0, 0))) := by
            show _ = _
            have r2' : (w2.alloc (.cells #[.int .i64 (r : Int)] 3)).grownBy W' (Value.slice a3 m c3).ownBlock := r2
            rw [r2'.block _ (row_lt HV3.out) (fun e => by
              rcases HO3.out.2 with ⟨e0, _⟩ | ⟨g, cap, cur, e0, _, b2, _⟩
              · rw [e0] at e; simp [Value.ownBlock] at e
              · rw [e0] at e; simp [Value.ownBlock] at e
                subst e
                rw [HV3.out] at b2; simp at b2)]
            exact HV3.out
          clear r1 r2 r3 HO3 HB3 HV3 HCE H1c HX HY HZ hmk HN
          go_wp2_with fail
          go_roundw
          case rel => exact ⟨r + 1, m + 1, by omega, by omega, by go_num, HMK2, HR1, HV4, HB4⟩
          case measure => simp [intOf]; omega
      obtain ⟨g, c2, ev, hgl, hcg, hlk⟩ := numRow_at HO2.out hkm
      injection ev with e1 _ e3
      subst e1 e3
      have hs := hl10.out _ (List.mem_of_getElem? hlk)
      obtain ⟨s, hss⟩ : ∃ s, Hid (l.getD k 0 = s) := ⟨_, rfl⟩
      rw [hss.out] at hcg hs hlk
      have HST : Hid ((b0 && !subA (l.take (k + 1)) r) = ((b0 && !subA (l.take k) r) && !decide (s &&& r = s))) := by
        show _ = _
        unfold subA
        rw [List.take_add_one, hlk, List.any_append]
        simp only [Option.toList_some, List.any_cons, List.any_nil, Bool.or_false, Bool.not_or, Bool.and_assoc]
      obtain ⟨q, hq⟩ : ∃ q, Hid ((b0 && !subA (l.take k) r) = q) := ⟨_, rfl⟩
      rw [hq.out] at HST ⊢
      have hand := and_i64 s r (by omega) (by omega)
      have hne : (((s &&& r : Nat) : Int) != (s : Int)) = !decide (s &&& r = s) := by by_cases e : s &&& r = s <;> simp [e]; omega
      generalize s &&& r = sr at *
      clear hlk hss hq hfr hmk HO2 hl hl10 HB2 HV2
      cases q
      · go_wp2_with fail
        go_round
        case rel => exact ⟨k + 1, by omega, by go_num, by rw [HST.out]; rfl⟩
        case measure => simp [intOf]; omega
      · obtain ⟨t, ht⟩ : ∃ t, Hid ((!decide (sr = s)) = t) := ⟨_, rfl⟩
        rw [ht.out] at hne HST
        go_wp2_with fail
        go_round
        case rel => exact ⟨k + 1, by omega, by go_num, by rw [HST.out]; rfl⟩
        case measure => simp [intOf]; omega
end Go.Proofs.Ytajcmamapmeglaa


/- The specification's SmallInvariants and IsKept. -/
namespace Go.Proofs.Ytajcmamapmeglaa
open Go.RowKit
set_option maxRecDepth 10000

theorem LRow.low {w : World} {B C : Nat} {v : Value} {K : List (List Int)} (h : LRow w B v K) (hC : C ≤ B) : LRow w C v K := by
  obtain ⟨cs, h1, h2⟩ := h
  refine ⟨cs, ⟨h1.1, ?_⟩, fun i hi => ?_⟩
  · rcases h1.2 with h0 | ⟨g, cap, cur, e, a1, a2⟩
    · exact .inl h0
    · exact .inr ⟨g, cap, cur, e, by omega, a2⟩
  · obtain ⟨a, b, n, c, e, ho, hB⟩ := h2 i hi
    exact ⟨a, b, n, c, e, ho, by omega⟩

/-- How the specification's SmallInvariants ends. -/
def SsiEnd (p : Int) (n : Nat) (L : List (List Int)) (w : World) (e : Ending) (w' : World) : Prop :=
  ∃ v, e = .returned (.tuple #[v, .bool (siOk p n L)]) ∧ LRow w' w.heap.size v (listsN (siN p n L)) ∧ Below w.heap.size w w'

theorem ssiEnd_no {p : Int} {n : Nat} {L : List (List Int)} {w w' : World} (h : siOk p n L = false) (hb : Below w.heap.size w w') : SsiEnd p n L w (.returned (.tuple #[.slice none 0 0, .bool false])) w' :=
  ⟨_, by rw [h], by rw [siN_no h]; exact LRow.nil _ _, hb⟩

set_option maxHeartbeats 2000000 in
theorem smallInvS_any (p : Int) (a : Option Addr) (n c : Nat) (L : List (List Int)) (w : World) (h : Lists w a (3 * n) L) (hs : sizeN n L ≤ 1048576) :
    Calls Try.prog 25 #[.agg #[.int .i64 p, .slice a n c]] w fun e w' => SsiEnd p n L w e w' := by
  have hAl := below_al w (.cells #[.int .i64 p, .slice a n c] 26)
  have PAR := hide (heap_alloc_new w (.cells #[.int .i64 p, .slice a n c] 26))
  have HT := hide (plainS_any p a n c L _ (h.below hAl) hs)
  have HB0 := hide hAl
  have HL := hide h
  clear h hAl
  go_enter Try.func25, Try.ntmps25
  go_wp2_with fail
  refine HT.out.mono ?_
  rintro e w1 ⟨rfl, hb⟩
  have HB1 := hide (HB0.out.trans (hb.mono HB0.out.size))
  obtain ⟨hc0, hc1⟩ := cells2 (keep PAR.out hb)
  have hlt := row_lt (keep PAR.out hb)
  clear hb HT HB0 PAR
  by_cases g1 : plainB p n L = true
  rotate_left
  · have g1' : plainB p n L = false := by simpa using g1
    have HN := hide (ssiEnd_no (show siOk p n L = false by unfold siOk; rw [g1']; rfl) HB1.out)
    rw [g1']
    clear g1 g1' hc0 hc1 hlt
    go_wp2_with fail
    go_ret2
    exact HN.out
  have HG1 := hide g1
  have hgn : netOk p n L = true := by unfold plainB at g1; simp only [Bool.and_eq_true] at g1; exact g1.1
  rw [g1]
  clear g1
  by_cases h10 : p ≤ 10
  rotate_left
  · have hd : (10 : Int) < p := by omega
    have HN := hide (ssiEnd_no (show siOk p n L = false by unfold siOk; simp [h10]) HB1.out)
    clear h10 hgn
    go_wp2_with fail
    go_ret2
    exact HN.out
  have hd : ¬ (10 : Int) < p := by omega
  have HOK : Hid (siOk p n L = true) := by show _ = _; unfold siOk; rw [HG1.out]; simp [h10]
  have hp1 : 1 ≤ p := (si_parts HOK.out).2.1
  obtain ⟨P, rfl⟩ : ∃ P : Nat, p = (P : Int) := ⟨p.toNat, by omega⟩
  have HC := hide (smallS_any P a n c L _ (HL.out.below HB1.out) hgn (by omega))
  have HSI : Hid (siN (P : Int) n L = smallN (fun s => invB (rowB s P) n L) (2 ^ P - 1)) := by show _ = _; unfold siN; rw [if_pos HOK.out, Int.toNat_natCast]
  clear hgn h10 hp1
  go_wp2_with fail
  refine HC.out.mono ?_
  rintro e w2 ⟨v, rfl, hlr, hb⟩
  have HE : Hid (SsiEnd (P : Int) n L w (.returned (.tuple #[v, .bool true])) w2) := ⟨v, by rw [HOK.out], by rw [HSI.out]; exact hlr.low HB1.out.size, HB1.out.trans (hb.mono HB1.out.size)⟩
  clear hlr hb HC HSI hc0 hc1 hlt
  go_wp2_with fail
  go_ret2
  exact HE.out

theorem LRow.at {w : World} {B : Nat} {v : Value} {K : List (List Int)} (h : LRow w B v K) {k : Nat} (hk : k < K.length) : ∃ g cap a n c, v = .slice (some ⟨g, 0, none⟩) K.length cap ∧ g < w.heap.size ∧ w.cell? ⟨g, k, none⟩ = some (.slice a n c) ∧ Row w a n (K.getD k []) := by
  obtain ⟨cs, h1, h2⟩ := h
  rcases h1.2 with ⟨rfl, e0⟩ | ⟨g, cap, cur, rfl, hb, hh, hnc, _, hsz, ht⟩
  · omega
  · obtain ⟨a, b, n, c, e, ho, _⟩ := h2 k hk
    refine ⟨g, cap, a, n, c, rfl, (Array.getElem?_eq_some_iff.mp hh).1, ?_, ho.row⟩
    rw [cell_of_row w g k cur _ _ hh]
    have e2 : (cur.toList.take (K.length * 1))[k]? = cs[k]? := by rw [ht]
    rw [List.getElem?_take_of_lt (by omega), Array.getElem?_toList] at e2
    rw [e2]; exact e

/-- A row of truths. -/
def KRow (w : World) (g n : Nat) (f : Nat → Bool) : Prop := ∃ cur, w.heap[g]? = some (.cells cur 4 (0, 0)) ∧ cur.size = n ∧ ∀ j, j < n → cur[j]? = some (.bool (f j))

theorem KRow.made (w : World) (n : Nat) : KRow (w.alloc (.cells (madeCells #[.bool false] n) 4)) w.heap.size n (fun _ => false) := by
  refine ⟨_, heap_alloc_new _ _, by rw [size_madeCells], fun j hj => ?_⟩
  unfold madeCells
  simp [hj, Nat.mod_one]

theorem KRow.set {w : World} {g n : Nat} {f : Nat → Bool} (h : KRow w g n f) {k : Nat} (hk : k < n) : KRow (w.setCell ⟨g, k, none⟩ (.bool true)) g n (fun j => f j || decide (j = k)) := by
  obtain ⟨cur, h1, h2, h3⟩ := h
  refine ⟨_, heap_setCell_same w g k cur _ _ h1, by simpa using h2, fun j hj => ?_⟩
  rw [Array.getElem?_setIfInBounds]
  by_cases e : k = j
  · subst e; rw [if_pos rfl, if_pos (by omega)]; simp
  · have e' : ¬ j = k := fun h => e h.symm
    rw [if_neg e, h3 j hj]; simp [e']

theorem Try.info4K : (Try.prog.info? 4).map (fun i => (i.zero, i.size, i.bytes)) = some (some (.bool false), 1, 1) := by kernel_rfl
theorem Try.und98K : Try.prog.underlying 98 = some (.slice 4) := by kernel_rfl

/-- Whether a place lies in one of some lists. -/
def inK (K : List (List Int)) (j : Nat) : Bool := K.any fun x => decide ((j : Int) ∈ x)

theorem inK_take {K : List (List Int)} {k : Nat} {x : List Int} (h : K[k]? = some x) (j : Nat) : inK (K.take (k + 1)) j = (inK (K.take k) j || decide ((j : Int) ∈ x)) := by
  unfold inK
  rw [List.take_add_one, h, List.any_append]; simp

theorem in_take {x : List Int} {k z : Nat} (h : x[k]? = some (z : Int)) (j : Nat) : decide ((j : Int) ∈ x.take (k + 1)) = (decide ((j : Int) ∈ x.take k) || decide (j = z)) := by
  rw [List.take_add_one, h]
  by_cases e : j = z
  · subst e; simp
  · have : ¬ (j : Int) = (z : Int) := by omega
    simp [e, this]

theorem kept_eq {P : Nat} {l : List Nat} (hP : P ≤ 16) (hl : ∀ s ∈ l, s < 2 ^ P) : decide (unionN l = 2 ^ P - 1) = (List.range P).all fun j => inK (listsN l) j := by
  have hin : ∀ j, j < 16 → inK (listsN l) j = (unionN l).testBit j := by
    intro j hj
    rw [unionN_bit]
    unfold inK listsN
    rw [List.any_map]
    congr 1
    funext s
    show decide ((j : Int) ∈ nums2 s.testBit 16) = s.testBit j
    cases hb : s.testBit j
    · exact decide_eq_false fun h => by have := (mem_nums2.mp h).2; rw [hb] at this; simp at this
    · exact decide_eq_true (mem_nums2.mpr ⟨hj, hb⟩)
  have hu : unionN l < 2 ^ P := unionN_lt hl
  rw [Bool.eq_iff_iff, decide_eq_true_eq, List.all_eq_true]
  constructor
  · intro e j hj
    rw [hin j (by have := List.mem_range.mp hj; omega), e, Nat.testBit_two_pow_sub_one]
    simpa using hj
  · intro h
    apply Nat.eq_of_testBit_eq
    intro i
    rw [Nat.testBit_two_pow_sub_one]
    by_cases hi : i < P
    · rw [decide_eq_true hi, ← hin i (by omega)]; exact h i (by simpa using hi)
    · rw [decide_eq_false hi, Nat.testBit_lt_two_pow (Nat.lt_of_lt_of_le hu (Nat.pow_le_pow_right (by decide) (by omega)))]

set_option maxHeartbeats 8000000 in
theorem isKeptS_any (p : Int) (a : Option Addr) (n c : Nat) (L : List (List Int)) (w : World) (h : Lists w a (3 * n) L) (hs : sizeN n L ≤ 1048576) :
    Calls Try.prog 27 #[.agg #[.int .i64 p, .slice a n c]] w fun e w' => IkpEnd p n L w e w' := by
  have hAl := below_al w (.cells #[.int .i64 p, .slice a n c] 26)
  have PAR := hide (heap_alloc_new w (.cells #[.int .i64 p, .slice a n c] 26))
  have HT := hide (smallInvS_any p a n c L _ (h.below hAl) hs)
  have HB0 := hide hAl
  clear h hAl
  go_enter Try.func27, Try.ntmps27
  go_wp2_with fail
  refine HT.out.mono ?_
  rintro e w1 ⟨v, rfl, hlr, hb⟩
  have HB1 := hide (HB0.out.trans (hb.mono HB0.out.size))
  obtain ⟨hc0, hc1⟩ := cells2 (keep PAR.out hb)
  have hlt := row_lt (keep PAR.out hb)
  have HLR := hide hlr
  clear hb HT HB0 PAR hlr
  by_cases g1 : siOk p n L = true
  rotate_left
  · have g1' : siOk p n L = false := by simpa using g1
    have HN : Hid (IkpEnd p n L w (.returned (.tuple #[.bool false, .bool false])) w1) := ⟨ret_2 (by unfold ikR; rw [g1']; rfl) g1'.symm, HB1.out⟩
    rw [g1']
    clear g1 g1' hc0 hc1 hlt
    go_wp2_with fail
    go_ret2
    exact HN.out
  obtain ⟨hg, hp1, hp2⟩ := si_parts g1
  obtain ⟨P, rfl⟩ : ∃ P : Nat, p = (P : Int) := ⟨p.toNat, by omega⟩
  have HG1 := hide g1
  rw [g1]
  obtain ⟨l, hl⟩ : ∃ l, Hid (siN (P : Int) n L = l) := ⟨_, rfl⟩
  have hP16 : P ≤ 16 := by omega
  have hP1 : 1 ≤ P := by omega
  have HIK : Hid (ikR (P : Int) n L = (List.range P).all fun j => inK (listsN l) j) := by
    show _ = _
    unfold ikR
    rw [g1, hl.out, Int.toNat_natCast, ← kept_eq hP16 (fun s hs => by rw [← hl.out] at hs; have := (siN_mem hs).2.2; rwa [Int.toNat_natCast] at this)]; rfl
  have hll : l.length ≤ 1024 := by rw [← hl.out]; exact siN_len _ _ _
  have HPL : Hid (∀ s ∈ l, s < 2 ^ P) := fun s hs => by rw [← hl.out] at hs; have := (siN_mem hs).2.2; rwa [Int.toNat_natCast] at this
  rw [hl.out] at HLR
  have hmk := run_make_many (P := Try.prog) 98 4 (.bool false) 1 1 Try.und98K Try.info4K .i64 .i64 P (by omega) (by omega)
  simp only [Value.cells, Nat.mul_one] at hmk
  obtain ⟨av, cv, rfl, _⟩ := HLR.out.lists (listsN_at l)
  have hKl : (listsN l).length ≤ 1024 := by rw [listsN_len]; exact hll
  have HKB : Hid (∀ (k : Nat) (x : List Int), (listsN l)[k]? = some x → ∀ z ∈ x, 0 ≤ z ∧ z < (P : Int)) := by
    intro k x hx z hz
    obtain ⟨s, hs, rfl⟩ := List.mem_map.mp (List.mem_of_getElem? hx)
    have h1 := nums2_lo hz
    refine ⟨h1.1, ?_⟩
    rcases Nat.lt_or_ge z.toNat P with h | h
    · omega
    · rw [Nat.testBit_lt_two_pow (Nat.lt_of_lt_of_le (HPL.out s hs) (Nat.pow_le_pow_right (by decide) h))] at h1
      simp at h1
  have HK16 := hide (listsN_at l)
  generalize listsN l = K at *
  clear g1 hg hl HPL hll hp1 hp2
  go_wp2_with fail
  have HKR := hide (KRow.made w1 P)
  have HW := hide (below_al w1 (.cells (madeCells #[.bool false] P) 4))
  obtain ⟨g, hg⟩ : ∃ g, Hid (w1.heap.size = g) := ⟨_, rfl⟩
  generalize w1.alloc (.cells (madeCells #[.bool false] P) 4) = v1 at *
  rw [hg.out] at HKR ⊢
  clear hmk hc0 hc1 hlt
  go_loopw [25] (fun i wr => ∃ k : Nat, k ≤ K.length ∧ i = .int .i64 k ∧ Hid (KRow wr g P (fun j => inK (K.take k) j)) ∧ Hid (Below w1.heap.size w1 wr)) (fun i _ => K.length - (intOf i).toNat)
  case atStart => exact ⟨0, Nat.zero_le _, rfl, HKR, HW⟩
  case round =>
    obtain ⟨k, hk, rfl, hkr, hbw⟩ := hrel
    clear HKR HW
    by_cases hkm : k < K.length
    · obtain ⟨gk, ck, ax, nx, cx, ev, hgl, hcg, hrow⟩ := HLR.out.at hkm
      injection ev with e1 _ e3
      subst e1 e3
      obtain ⟨x, hx⟩ : ∃ x, Hid (K.getD k [] = x) := ⟨_, rfl⟩
      have hxk : Hid (K[k]? = some x) := by
        show _ = _
        rw [List.getElem?_eq_getElem hkm, ← hx.out, List.getD_eq_getElem?_getD, List.getElem?_eq_getElem hkm]; rfl
      have hx16 : nx ≤ 16 := by have h1 := hrow.1; have h2 := HK16.out k; omega
      rw [hx.out] at hrow
      have HROW : Hid (Row w1 ax nx x) := hrow
      have HXB := hide (HKB.out k x hxk.out)
      have hcw := (hbw.out.cell hgl).trans hcg
      have hgl2 : gk < wr.heap.size := by have := hbw.out.size; omega
      have hw1g : w1.heap.size ≤ g := by rw [hg.out]; exact Nat.le_refl _
      have HKR0 : Hid (KRow wr g P (fun j => inK (K.take k) j || decide ((j : Int) ∈ x.take 0))) := by
        have := hkr.out
        show KRow _ _ _ _
        simpa using this
      clear hrow hcg hkr hx
      go_wp2_with fail
      clear hcw hgl2
      go_loopw [31] (fun i wr => ∃ t : Nat, t ≤ nx ∧ i = .int .i64 t ∧ Hid (KRow wr g P (fun j => inK (K.take k) j || decide ((j : Int) ∈ x.take t))) ∧ Hid (Below w1.heap.size w1 wr)) (fun i _ => nx - (intOf i).toNat)
      case atStart => exact ⟨0, Nat.zero_le _, rfl, HKR0, hbw⟩
      case round =>
        obtain ⟨t, ht, rfl, hkr, hbq⟩ := hrel
        clear HKR0 hbw
        by_cases htn : t < nx
        · obtain ⟨b1, o1, z, rfl, hl1, hc1, H1⟩ := (HROW.out.below hbq.out).at htn
          have hzm := HXB.out z (List.mem_of_getElem? H1.out)
          obtain ⟨y, rfl⟩ : ∃ y : Nat, z = (y : Int) := ⟨z.toNat, by omega⟩
          have hyP : (y : Int) < (P : Int) := hzm.2
          obtain ⟨cur, hh, hcs, hcell⟩ := hkr.out
          have hfr := frozen_of_row wr g y cur _ hh
          have hcy := cell_of_row wr g y cur _ _ hh
          rw [hcell y (by omega)] at hcy
          have hgl2 := (Array.getElem?_eq_some_iff.mp hh).1
          obtain ⟨bo, hbo⟩ : ∃ b, Hid ((inK (K.take k) y || decide ((y : Int) ∈ x.take t)) = b) := ⟨_, rfl⟩
          simp only [hbo.out] at hcy
          have HN : Hid (KRow (wr.setCell ⟨g, y, none⟩ (.bool true)) g P (fun j => inK (K.take k) j || decide ((j : Int) ∈ x.take (t + 1)))) := by
            show KRow _ _ _ _
            have e : (fun j => inK (K.take k) j || decide ((j : Int) ∈ x.take (t + 1))) = (fun j => (inK (K.take k) j || decide ((j : Int) ∈ x.take t)) || decide (j = y)) := funext fun j => by rw [in_take H1.out, Bool.or_assoc]
            rw [e]; exact hkr.out.set (by omega)
          have HBN := hide (hbq.out.setCell (p := ⟨g, y, none⟩) hw1g (.bool true))
          clear hkr hbq hh hcs hcell hbo H1 hzm HXB HROW HLR
          go_wp2_with fail
          go_roundw
          case rel => exact ⟨t + 1, by omega, by go_num, HN, HBN⟩
          case measure => simp [intOf]; omega
        · have ht' : nx = t := by omega
          subst ht'
          have HN : Hid (KRow wr g P (fun j => inK (K.take (k + 1)) j)) := by
            show KRow _ _ _ _
            have h1 := hkr.out
            rw [List.take_of_length_le (l := x) (by have := HROW.out.1; omega)] at h1
            have e : (fun j => inK (K.take (k + 1)) j) = (fun j => inK (K.take k) j || decide ((j : Int) ∈ x)) := funext fun j => inK_take hxk.out j
            rw [e]; exact h1
          clear hkr
          go_wp2_with fail
          go_roundw
          case rel => exact ⟨k + 1, by omega, by go_num, HN, hbq⟩
          case measure => simp [intOf]; omega
    · have hk' : k = K.length := by omega
      subst hk'
      rw [List.take_length] at hkr
      have HKR := hkr
      have HBF := hide (HB1.out.trans (hbw.out.mono HB1.out.size))
      clear hkr hbw
      go_wp2_with fail
      go_loop [42] (fun i => ∃ j : Nat, j ≤ P ∧ i = .int .i64 j ∧ Hid (((List.range j).all fun j => inK K j) = true)) (fun i => P - (intOf i).toNat)
      case atStart => exact ⟨0, Nat.zero_le _, rfl, rfl⟩
      case round =>
        obtain ⟨j, hj, rfl, hu⟩ := hrel
        by_cases hjP : j < P
        rotate_left
        · have hj' : j = P := by omega
          subst hj'
          have HI : Hid (ikR (j : Int) n L = true) := by show _ = _; rw [HIK.out]; exact hu.out
          clear hu HKR HIK
          go_wp2_with fail
          go_ret2
          exact ⟨ret_2 HI.out.symm HG1.out.symm, HBF.out⟩
        obtain ⟨cur, hh, hcs, hcell⟩ := HKR.out
        have hcy := cell_of_row wr g j cur _ _ hh
        rw [hcell j hjP] at hcy
        have hgl2 := (Array.getElem?_eq_some_iff.mp hh).1
        cases hb : inK K j
        · have HI : Hid (ikR (P : Int) n L = false) := by
            show _ = _
            rw [HIK.out, List.all_eq_false]
            exact ⟨j, by simpa using hjP, by rw [hb]; simp⟩
          simp only [hb] at hcy
          clear hu hh hcs hcell hb HKR HIK
          go_wp2_with fail
          go_ret2
          exact ⟨ret_2 HI.out.symm HG1.out.symm, HBF.out⟩
        · have HU : Hid (((List.range (j + 1)).all fun j => inK K j) = true) := by
            show _ = _
            rw [List.range_succ, List.all_append, hu.out]
            simp [hb]
          simp only [hb] at hcy
          clear hu hh hcs hcell hb HKR HIK
          go_wp2_with fail
          go_round
          case rel => exact ⟨j + 1, by omega, by go_num, HU⟩
          case measure => simp [intOf]; omega
end Go.Proofs.Ytajcmamapmeglaa


/- Slices of lists: what szIntSS, toIntSS, eqIntSS, markIntSS and heldIntSS answer, make and write. -/
namespace Go.Proofs.Ytajcmamapmeglaa
open Go.RowKit
set_option maxRecDepth 10000

theorem Lists.at {w : World} {a : Option Addr} {n : Nat} {L : List (List Int)} (h : Lists w a n L) {k : Nat} (hk : k < n) :
    ∃ b off a' n' c', a = some ⟨b, off, none⟩ ∧ b < w.heap.size ∧ w.cell? ⟨b, off + k, none⟩ = some (.slice a' n' c') ∧ n' ≤ maxLen ∧ Row w a' n' (L.getD k []) := by
  rcases h.2 with h0 | ⟨b, off, e, hl, hc⟩
  · omega
  · obtain ⟨a', n', c', h1, h2, h3⟩ := hc k hk
    exact ⟨b, off, a', n', c', e, hl, h1, h2, h3⟩


theorem Try.info27 : (Try.prog.info? 27).map (fun i => (i.zero, i.size, i.bytes)) = some (some (.slice none 0 0), 1, 24) := by kernel_rfl

theorem PartL.step1 {v w : World} {B n k b0 : Nat} {T : TypeId} {L : List (List Int)} {x0 : List Int} (h : PartL v B n k T L) (hk : k < n) (hb : Below v.heap.size v w)
    (h0 : v.heap.size ≤ b0) (g0 : w.heap[b0]? = some (.cells (cellsOf x0) 3 (0, 0))) (e0 : L.getD k [] = x0) :
    PartL (w.setCell ⟨B, k, none⟩ (.slice (some ⟨b0, 0, none⟩) x0.length x0.length)) B n (k + 1) T L := by
  obtain ⟨C, f, h1, h2, h3, h4⟩ := h
  have hB := (Array.getElem?_eq_some_iff.mp h1).1
  have hold : ∀ j, j < k → f j < v.heap.size := fun j hj => (Array.getElem?_eq_some_iff.mp (h3 j hj).2.2).1
  refine ⟨_, fun j => if j < k then f j else b0, heap_setCell_same _ _ _ _ _ _ ((hb.block B hB).trans h1), by simp [h2], fun j hj => ?_, fun i j hij hj => ?_⟩
  · by_cases hj3 : j < k
    · obtain ⟨q1, q2, q3⟩ := h3 j hj3
      simp only [if_pos hj3]
      refine ⟨?_, q2, ?_⟩
      · rw [Array.getElem?_setIfInBounds_ne (by omega)]; exact q1
      · rw [Below.heap_setCell _ _ _ _ (show f j ≠ B by omega)]; exact (hb.block _ (hold j hj3)).trans q3
    · simp only [if_neg hj3]
      obtain rfl : j = k := by omega
      rw [e0]
      refine ⟨?_, by omega, ?_⟩
      · rw [Array.getElem?_setIfInBounds, if_pos rfl, if_pos (by omega)]
      · rw [Below.heap_setCell _ _ _ _ (show b0 ≠ B by omega)]; exact g0
  · have := h4 i j hij
    by_cases hi3 : i < k
    · have := hold i hi3
      simp only [if_pos hi3]
      split
      all_goals omega
    · omega

/-- The cell k of the row is there, and can be written. -/
theorem PartL.spot {w : World} {B n k : Nat} {T : TypeId} {L : List (List Int)} (h : PartL w B n k T L) {j : Nat} (hj : j < n) : ∃ v, w.cell? ⟨B, j, none⟩ = some v ∧ w.frozen? ⟨B, j, none⟩ = false := by
  obtain ⟨C, f, h1, h2, h3, h4⟩ := h
  exact ⟨_, by rw [cell_of_row w B j C _ _ h1]; exact Array.getElem?_eq_getElem (by omega), frozen_of_row w B j C _ h1⟩

theorem PartL.lists1 {w : World} {B n : Nat} {T : TypeId} {L : List (List Int)} (h : PartL w B n n T L) (hl : L.length = n) (hs : sizeN n L ≤ 1048576) : Lists w (some ⟨B, 0, none⟩) n L := by
  obtain ⟨C, f, h1, h2, h3, h4⟩ := h
  refine ⟨hl, .inr ⟨B, 0, rfl, (Array.getElem?_eq_some_iff.mp h1).1, fun j hj => ?_⟩⟩
  obtain ⟨e1, e2, e3⟩ := h3 j hj
  refine ⟨_, _, _, by rw [cell_of_row w B (0 + j) C T _ h1, Nat.zero_add]; exact e1, ?_, Own.row (B := 0) ⟨rfl, _, rfl, Nat.zero_le _, e3⟩⟩
  have := len_le L j
  unfold sizeN at hs; unfold maxLen; omega

/-- How a call that makes one list ends. -/
def NewRow (xs : List Int) (w : World) (e : Ending) (w' : World) : Prop :=
  ∃ b, e = .returned (.slice (some ⟨b, 0, none⟩) xs.length xs.length) ∧ w.heap.size ≤ b ∧ w'.heap[b]? = some (.cells (cellsOf xs) 3 (0, 0)) ∧ Below w.heap.size w w'

/-- Lists that were made: none, or behind a block that leads to them. -/
def NetF (w : World) (a : Option Addr) (B hi n : Nat) (M : Nat → List Int) : Prop := n = 0 ∨ (a = some ⟨B, 0, none⟩ ∧ PartF w B hi n 27 M)

theorem NetF.seq1 {w : World} {a : Option Addr} {B hi n k0 : Nat} {M : Nat → List Int} (h : NetF w a B hi n (markedF k0 M n)) {k : Nat} (hk : k < n) :
    ∃ b l, a = some ⟨B, 0, none⟩ ∧ w.cell? ⟨B, k, none⟩ = some (.slice (some ⟨b, 0, none⟩) l l) ∧ Hid ((M k).length = l) ∧ Hid (Row w (some ⟨b, 0, none⟩) l (seqL (k0 + cntF M k) l)) := by
  rcases h with h0 | ⟨rfl, hp⟩
  · omega
  · obtain ⟨b, h1, h2, h3, h4, _⟩ := hp.one hk
    have hm : markedF k0 M n k = seqL (k0 + cntF M k) (M k).length := by unfold markedF; rw [if_pos hk]
    rw [hm, seqL_len] at h1 h4
    exact ⟨b, _, rfl, h1, rfl, h4.row⟩

end Go.Proofs.Ytajcmamapmeglaa
