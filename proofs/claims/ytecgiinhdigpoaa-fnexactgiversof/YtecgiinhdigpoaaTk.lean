/- The numbers of the transitions of a net that are as asked: the specification's TakersOf and GiversOf. -/
import Derived.Test.YtecgiinhdigpoaaOb
import Derived.Test.YtecgiinhdigpoaaOw
namespace Go.Proofs.Ytecgiinhdigpoaa
open Go.RowKit

/-- The numbers below k that are as asked. -/
def numsL (f : Nat → Bool) (k : Nat) : List Int := ((List.range k).filter f).map fun (i : Nat) => (i : Int)

theorem numsL_yes {f : Nat → Bool} {k : Nat} (h : f k = true) : numsL f (k + 1) = numsL f k ++ [(k : Int)] := by simp [numsL, List.range_succ, List.filter_append, h]
theorem numsL_no {f : Nat → Bool} {k : Nat} (h : f k = false) : numsL f (k + 1) = numsL f k := by simp [numsL, List.range_succ, List.filter_append, h]
theorem numsL_len (f : Nat → Bool) (k : Nat) : (numsL f k).length ≤ k := by
  unfold numsL
  rw [List.length_map]
  have := List.length_filter_le f (List.range k)
  rwa [List.length_range] at this

/-- A list that an append has made, handed back alone. -/
def NumsEnd (f : Nat → Bool) (n : Nat) (w : World) (e : Ending) (w' : World) : Prop :=
  ∃ v m, e = .returned v ∧ w'.ownsRow w.heap.size 3 1 v m ((numsL f n).map (Value.int .i64)) ∧ Below w.heap.size w w'

theorem own_below {B : Nat} {w w' : World} {v : Value} {n : Nat} {l : List Value} (hown : w.ownsRow B 3 1 v n l) (hg : w.grownBy w' v.ownBlock) {a : World} {C : Nat} (h : Below C a w) (hC : C ≤ w.heap.size) (hB : C ≤ B) : Below C a w' := by
  refine h.grown hg hC fun k hk => ?_
  rcases hown.2 with ⟨rfl, _⟩ | ⟨g, cap, cur, rfl, hb, _⟩
  · simp [Value.ownBlock] at hk
  · simp [Value.ownBlock] at hk; omega

theorem one_cell (w : World) (v : Value) : ∀ j u, ([v] : List Value)[j]? = some u → (w.alloc (.cells #[v] 3)).cell? ((⟨w.heap.size, 0, none⟩ : Addr).add j) = some u := by
  intro j u hu
  match j, hu with
  | 0, hu =>
    simp at hu; subst hu
    rw [Addr.add_mid]
    exact cell_of_row _ w.heap.size 0 #[v] _ _ (heap_alloc_new _ _)
  | (q + 1), hu => simp at hu

set_option maxHeartbeats 1000000 in
theorem takersS_any (p q : Int) (a : Option Addr) (n c : Nat) (L : List (List Int)) (w : World) (h : Lists w a (3 * n) L) (hs : sizeN n L ≤ 1048576) (hn : n ≤ 24) :
    Calls Try.prog 19 #[.agg #[.int .i64 p, .slice a n c], .int .i64 q] w fun e w' => NumsEnd (fun i => hasB (L.getD (3 * i) []) q) n w e w' := by
  have hAl := below_al w (.cells #[.int .i64 p, .slice a n c] 31)
  have HL := hide h
  have HB0 := hide hAl
  have hs' : n + sizeL L ≤ 1048576 := hs
  obtain ⟨i0, hi, hz0, hz1, hz2⟩ := info_split Try.info3
  clear h hAl
  go_enter Try.func19, Try.ntmps19
  go_wp2_with fail
  obtain ⟨V, hV⟩ : ∃ V, Hid (w.alloc (.cells #[.int .i64 p, .slice a n c] 31) = V) := ⟨_, rfl⟩
  rw [hV.out] at HB0 ⊢
  clear hV
  go_loopw [5, 11] (fun o i wr => ∃ k m : Nat, k ≤ n ∧ i = .int .i64 k ∧ Hid (m ≤ k) ∧ Hid (wr.ownsRow w.heap.size 3 1 o m ((numsL (fun i => hasB (L.getD (3 * i) []) q) k).map (Value.int .i64))) ∧ Hid (Below w.heap.size w wr)) (fun _ i _ => n - (intOf i).toNat)
  case atStart => exact ⟨0, 0, Nat.zero_le _, rfl, Nat.le_refl _, World.ownsRow_nil _ _ _ _, HB0⟩
  case round =>
    obtain ⟨k, m, hk, rfl, hmk, hown, hbw⟩ := hrel
    by_cases hlt : k < n
    rotate_left
    · have hk' : k = n := by omega
      subst hk'
      go_wp2_with fail
      go_ret
      exact ⟨_, m, rfl, hown.out, hbw.out⟩
    obtain ⟨b, off, a0, n0, c0, a1, n1, c1, a2, n2, c2, rfl, hb, hr, m0, m1, m2, r0, r1, r2⟩ := (HL.out.below hbw.out).tri hlt
    obtain ⟨hc0, hc1, hc2⟩ := rangeAt_cells3 hr
    have hl := len_le L (3 * k)
    have hA1 := below_al wr (.cells #[.slice a0 n0 c0, .slice a1 n1 c1, .slice a2 n2 c2] 55)
    have q0 : n0 ≤ 1048576 := by have := r0.1; omega
    have HH := hide (has_any _ _ c0 _ q _ (r0.below hA1) q0)
    have HB1 := hide (hbw.out.trans (hA1.mono hbw.out.size))
    have HO1 := hide (hown.out.alloc (.cells #[.slice a0 n0 c0, .slice a1 n1 c1, .slice a2 n2 c2] 55))
    clear hr r0 r1 r2 m0 m1 m2 hl hA1
    by_cases hh : hasB (L.getD (3 * k) []) q = true
    rotate_left
    · have hh' : hasB (L.getD (3 * k) []) q = false := by simpa using hh
      have HN := hide (numsL_no (f := fun i => hasB (L.getD (3 * i) []) q) hh')
      rw [hh'] at HH
      clear hh hh' hown
      go_wp2_with fail
      refine HH.out.mono ?_
      rintro e w' ⟨rfl, rfl⟩
      go_wp2_with fail
      go_roundw
      case rel => exact ⟨k + 1, m, by omega, by go_num, Nat.le_succ_of_le hmk.out, by rw [HN.out]; exact HO1, HB1⟩
      case measure => simp [intOf]; omega
    have HN := hide (numsL_yes (f := fun i => hasB (L.getD (3 * i) []) q) hh)
    rw [hh] at HH
    clear hh hown
    go_wp2_with fail
    refine HH.out.mono ?_
    rintro e w' ⟨rfl, rfl⟩
    obtain ⟨W1, hW1⟩ : ∃ W1, Hid (wr.alloc (.cells #[.slice a0 n0 c0, .slice a1 n1 c1, .slice a2 n2 c2] 55) = W1) := ⟨_, rfl⟩
    rw [hW1.out] at HB1 HO1 ⊢
    have hA2 := below_al W1 (.cells #[.int .i64 (k : Int)] 3)
    have HO2 := hide (HO1.out.alloc (.cells #[.int .i64 (k : Int)] 3))
    have HB2 := hide (HB1.out.trans (hA2.mono HB1.out.size))
    have HCE : Hid (∀ j u, ([.int .i64 (k : Int)] : List Value)[j]? = some u → (W1.alloc (.cells #[.int .i64 (k : Int)] 3)).cell? ((⟨W1.heap.size, 0, none⟩ : Addr).add j) = some u) := one_cell W1 _
    have H1c : Hid (∀ u ∈ ([.int .i64 (k : Int)] : List Value), u.oneCell' = true) := fun u hu => by simp at hu; subst hu; rfl
    have HX := hide (show m + 1 ≤ maxLen by have := hmk.out; unfold maxLen; omega)
    have HY := hide (show (m + 1) * 8 ≤ 140737488355328 by have := hmk.out; omega)
    have HZ := hide HB2.out.size
    clear hA2 hc0 hc1 hc2 HH hW1
    go_wp2_with (refine wpList_append_own _ rfl (.tmp 20) (.tmp 22) 26 rfl w.heap.size 3 i0 (.int .i64 0) 1 8 Try.underlying26 hi hz0 hz1 hz2 rfl (by decide) u5 m _ rfl HO2.out ⟨W1.heap.size, 0, none⟩ 1 1 [.int .i64 (k : Int)] rfl rfl HCE.out H1c.out HX.out HY.out HZ.out ?_; intro v' W' r1 r2 r3)
    have HR1 : Hid (W'.ownsRow w.heap.size 3 1 v' (m + 1) ((numsL (fun i => hasB (L.getD (3 * i) []) q) (k + 1)).map (Value.int .i64))) := by
      show World.ownsRow _ _ _ _ _ _ _
      rw [HN.out, List.map_append]; exact r1
    have HB3 := hide (own_below HO2.out r2 HB2.out HB2.out.size (Nat.le_refl _))
    clear r1 r2 r3
    go_wp2_with fail
    go_roundw
    case rel => exact ⟨k + 1, m + 1, by omega, by go_num, Nat.succ_le_succ hmk.out, HR1, HB3⟩
    case measure => simp [intOf]; omega

set_option maxHeartbeats 1000000 in
theorem giversS_any (p q : Int) (a : Option Addr) (n c : Nat) (L : List (List Int)) (w : World) (h : Lists w a (3 * n) L) (hs : sizeN n L ≤ 1048576) (hn : n ≤ 24) :
    Calls Try.prog 25 #[.agg #[.int .i64 p, .slice a n c], .int .i64 q] w fun e w' => NumsEnd (fun i => hasB (L.getD (3 * i + 1) []) q) n w e w' := by
  have hAl := below_al w (.cells #[.int .i64 p, .slice a n c] 31)
  have HL := hide h
  have HB0 := hide hAl
  have hs' : n + sizeL L ≤ 1048576 := hs
  obtain ⟨i0, hi, hz0, hz1, hz2⟩ := info_split Try.info3
  clear h hAl
  go_enter Try.func25, Try.ntmps25
  go_wp2_with fail
  obtain ⟨V, hV⟩ : ∃ V, Hid (w.alloc (.cells #[.int .i64 p, .slice a n c] 31) = V) := ⟨_, rfl⟩
  rw [hV.out] at HB0 ⊢
  clear hV
  go_loopw [5, 11] (fun o i wr => ∃ k m : Nat, k ≤ n ∧ i = .int .i64 k ∧ Hid (m ≤ k) ∧ Hid (wr.ownsRow w.heap.size 3 1 o m ((numsL (fun i => hasB (L.getD (3 * i + 1) []) q) k).map (Value.int .i64))) ∧ Hid (Below w.heap.size w wr)) (fun _ i _ => n - (intOf i).toNat)
  case atStart => exact ⟨0, 0, Nat.zero_le _, rfl, Nat.le_refl _, World.ownsRow_nil _ _ _ _, HB0⟩
  case round =>
    obtain ⟨k, m, hk, rfl, hmk, hown, hbw⟩ := hrel
    by_cases hlt : k < n
    rotate_left
    · have hk' : k = n := by omega
      subst hk'
      go_wp2_with fail
      go_ret
      exact ⟨_, m, rfl, hown.out, hbw.out⟩
    obtain ⟨b, off, a0, n0, c0, a1, n1, c1, a2, n2, c2, rfl, hb, hr, m0, m1, m2, r0, r1, r2⟩ := (HL.out.below hbw.out).tri hlt
    obtain ⟨hc0, hc1, hc2⟩ := rangeAt_cells3 hr
    have hl := len_le L (3 * k + 1)
    have hA1 := below_al wr (.cells #[.slice a0 n0 c0, .slice a1 n1 c1, .slice a2 n2 c2] 55)
    have q0 : n1 ≤ 1048576 := by have := r1.1; omega
    have HH := hide (has_any _ _ c1 _ q _ (r1.below hA1) q0)
    have HB1 := hide (hbw.out.trans (hA1.mono hbw.out.size))
    have HO1 := hide (hown.out.alloc (.cells #[.slice a0 n0 c0, .slice a1 n1 c1, .slice a2 n2 c2] 55))
    clear hr r0 r1 r2 m0 m1 m2 hl hA1
    by_cases hh : hasB (L.getD (3 * k + 1) []) q = true
    rotate_left
    · have hh' : hasB (L.getD (3 * k + 1) []) q = false := by simpa using hh
      have HN := hide (numsL_no (f := fun i => hasB (L.getD (3 * i + 1) []) q) hh')
      rw [hh'] at HH
      clear hh hh' hown
      go_wp2_with fail
      refine HH.out.mono ?_
      rintro e w' ⟨rfl, rfl⟩
      go_wp2_with fail
      go_roundw
      case rel => exact ⟨k + 1, m, by omega, by go_num, Nat.le_succ_of_le hmk.out, by rw [HN.out]; exact HO1, HB1⟩
      case measure => simp [intOf]; omega
    have HN := hide (numsL_yes (f := fun i => hasB (L.getD (3 * i + 1) []) q) hh)
    rw [hh] at HH
    clear hh hown
    go_wp2_with fail
    refine HH.out.mono ?_
    rintro e w' ⟨rfl, rfl⟩
    obtain ⟨W1, hW1⟩ : ∃ W1, Hid (wr.alloc (.cells #[.slice a0 n0 c0, .slice a1 n1 c1, .slice a2 n2 c2] 55) = W1) := ⟨_, rfl⟩
    rw [hW1.out] at HB1 HO1 ⊢
    have hA2 := below_al W1 (.cells #[.int .i64 (k : Int)] 3)
    have HO2 := hide (HO1.out.alloc (.cells #[.int .i64 (k : Int)] 3))
    have HB2 := hide (HB1.out.trans (hA2.mono HB1.out.size))
    have HCE : Hid (∀ j u, ([.int .i64 (k : Int)] : List Value)[j]? = some u → (W1.alloc (.cells #[.int .i64 (k : Int)] 3)).cell? ((⟨W1.heap.size, 0, none⟩ : Addr).add j) = some u) := one_cell W1 _
    have H1c : Hid (∀ u ∈ ([.int .i64 (k : Int)] : List Value), u.oneCell' = true) := fun u hu => by simp at hu; subst hu; rfl
    have HX := hide (show m + 1 ≤ maxLen by have := hmk.out; unfold maxLen; omega)
    have HY := hide (show (m + 1) * 8 ≤ 140737488355328 by have := hmk.out; omega)
    have HZ := hide HB2.out.size
    clear hA2 hc0 hc1 hc2 HH hW1
    go_wp2_with (refine wpList_append_own _ rfl (.tmp 20) (.tmp 22) 26 rfl w.heap.size 3 i0 (.int .i64 0) 1 8 Try.underlying26 hi hz0 hz1 hz2 rfl (by decide) u5 m _ rfl HO2.out ⟨W1.heap.size, 0, none⟩ 1 1 [.int .i64 (k : Int)] rfl rfl HCE.out H1c.out HX.out HY.out HZ.out ?_; intro v' W' r1 r2 r3)
    have HR1 : Hid (W'.ownsRow w.heap.size 3 1 v' (m + 1) ((numsL (fun i => hasB (L.getD (3 * i + 1) []) q) (k + 1)).map (Value.int .i64))) := by
      show World.ownsRow _ _ _ _ _ _ _
      rw [HN.out, List.map_append]; exact r1
    have HB3 := hide (own_below HO2.out r2 HB2.out HB2.out.size (Nat.le_refl _))
    clear r1 r2 r3
    go_wp2_with fail
    go_roundw
    case rel => exact ⟨k + 1, m + 1, by omega, by go_num, Nat.succ_le_succ hmk.out, HR1, HB3⟩
    case measure => simp [intOf]; omega

end Go.Proofs.Ytecgiinhdigpoaa
