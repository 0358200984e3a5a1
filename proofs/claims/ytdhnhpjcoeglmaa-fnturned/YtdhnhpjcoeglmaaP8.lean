/- Contracts that the proof stands on, one behind the other. -/
import Derived.Test.YtdhnhpjcoeglmaaP7
/- The numbers of the transitions of a net that are as asked: the specification's TakersOf and GiversOf. -/
namespace Go.Proofs.Ytdhnhpjcoeglmaa
open Go.RowKit

/-- The numbers below k that are as asked. -/
def numsL (f : Nat → Bool) (k : Nat) : List Int := ((List.range k).filter f).map fun (i : Nat) => (i : Int)

theorem numsL_yes {f : Nat → Bool} {k : Nat} (h : f k = true) : numsL f (k + 1) = numsL f k ++ [(k : Int)] := by simp [numsL, List.range_succ, List.filter_append, h]
theorem numsL_no {f : Nat → Bool} {k : Nat} (h : f k = false) : numsL f (k + 1) = numsL f k := by simp [numsL, List.range_succ, List.filter_append, h]
theorem numsL_len (f : Nat → Bool) (k : Nat) : (numsL f k).length ≤ k := by
  unfold numsL
  rw [List.length_map]
  have := List.length_filter_le f (List.range k)
  rwa [List.length_range] at this

/-- A list that an append has made, handed back alone. -/
def NumsEnd (f : Nat → Bool) (n : Nat) (w : World) (e : Ending) (w' : World) : Prop :=
  ∃ v m, e = .returned v ∧ w'.ownsRow w.heap.size 3 1 v m ((numsL f n).map (Value.int .i64)) ∧ Below w.heap.size w w'

theorem own_below {B : Nat} {w w' : World} {v : Value} {n : Nat} {l : List Value} (hown : w.ownsRow B 3 1 v n l) (hg : w.grownBy w' v.ownBlock) {a : World} {C : Nat} (h : Below C a w) (hC : C ≤ w.heap.size) (hB : C ≤ B) : Below C a w' := by
  refine h.grown hg hC fun k hk => ?_
  rcases hown.2 with ⟨rfl, _⟩ | ⟨g, cap, cur, rfl, hb, _⟩
  · simp [Value.ownBlock] at hk
  · simp [Value.ownBlock] at hk; omega

theorem one_cell (w : World) (v : Value) : ∀ j u, ([v] : List Value)[j]? = some u → (w.alloc (.cells #[v] 3)).cell? ((⟨w.heap.size, 0, none⟩ : Addr).add j) = some u := by
  intro j u hu
  match j, hu with
  | 0, hu =>
    simp at hu; subst hu
    rw [Addr.add_mid]
    exact cell_of_row _ w.heap.size 0 #[v] _ _ (heap_alloc_new _ _)
  | (q + 1), hu => simp at hu

set_option maxHeartbeats 1000000 in
theorem takersS_any (p q : Int) (a : Option Addr) (n c : Nat) (L : List (List Int)) (w : World) (h : Lists w a (3 * n) L) (hs : sizeN n L ≤ 1048576) (hn : n ≤ 24) :
    Calls Try.prog 75 #[.agg #[.int .i64 p, .slice a n c], .int .i64 q] w fun e w' => NumsEnd (fun i => hasB (L.getD (3 * i) []) q) n w e w' := by
  have hAl := below_al w (.cells #[.int .i64 p, .slice a n c] 26)
  have HL := hide h
  have HB0 := hide hAl
  have hs' : n + sizeL L ≤ 1048576 := hs
  obtain ⟨i0, hi, hz0, hz1, hz2⟩ := info_split Try.info3
  clear h hAl
  go_enter Try.func75, Try.ntmps75
  go_wp2_with fail
  obtain ⟨V, hV⟩ : ∃ V, Hid (w.alloc (.cells #[.int .i64 p, .slice a n c] 26) = V) := ⟨_, rfl⟩
  rw [hV.out] at HB0 ⊢
  clear hV
  go_loopw [5, 11] (fun o i wr => ∃ k m : Nat, k ≤ n ∧ i = .int .i64 k ∧ Hid (m ≤ k) ∧ Hid (wr.ownsRow w.heap.size 3 1 o m ((numsL (fun i => hasB (L.getD (3 * i) []) q) k).map (Value.int .i64))) ∧ Hid (Below w.heap.size w wr)) (fun _ i _ => n - (intOf i).toNat)
  case atStart => exact ⟨0, 0, Nat.zero_le _, rfl, Nat.le_refl _, World.ownsRow_nil _ _ _ _, HB0⟩
  case round =>
    obtain ⟨k, m, hk, rfl, hmk, hown, hbw⟩ := hrel
    by_cases hlt : k < n
    rotate_left
    · have hk' : k = n := by omega
      subst hk'
      go_wp2_with fail
      go_ret
      exact ⟨_, m, rfl, hown.out, hbw.out⟩
    obtain ⟨b, off, a0, n0, c0, a1, n1, c1, a2, n2, c2, rfl, hb, hr, m0, m1, m2, r0, r1, r2⟩ := (HL.out.below hbw.out).tri hlt
    obtain ⟨hc0, hc1, hc2⟩ := rangeAt_cells3 hr
    have hl := len_le L (3 * k)
    have hA1 := below_al wr (.cells #[.slice a0 n0 c0, .slice a1 n1 c1, .slice a2 n2 c2] 78)
    have q0 : n0 ≤ 1048576 := by have := r0.1; omega
    have HH := hide (has_any _ _ c0 _ q _ (r0.below hA1) q0)
    have HB1 := hide (hbw.out.trans (hA1.mono hbw.out.size))
    have HO1 := hide (hown.out.alloc (.cells #[.slice a0 n0 c0, .slice a1 n1 c1, .slice a2 n2 c2] 78))
    clear hr r0 r1 r2 m0 m1 m2 hl hA1
    by_cases hh : hasB (L.getD (3 * k) []) q = true
    rotate_left
    · have hh' : hasB (L.getD (3 * k) []) q = false := by simpa using hh
      have HN := hide (numsL_no (f := fun i => hasB (L.getD (3 * i) []) q) hh')
      rw [hh'] at HH
      clear hh hh' hown
      go_wp2_with fail
      refine HH.out.mono ?_
      rintro e w' ⟨rfl, rfl⟩
      go_wp2_with fail
      go_roundw
      case rel => exact ⟨k + 1, m, by omega, by go_num, Nat.le_succ_of_le hmk.out, by rw [HN.out]; exact HO1, HB1⟩
      case measure => simp [intOf]; omega
    have HN := hide (numsL_yes (f := fun i => hasB (L.getD (3 * i) []) q) hh)
    rw [hh] at HH
    clear hh hown
    go_wp2_with fail
    refine HH.out.mono ?_
    rintro e w' ⟨rfl, rfl⟩
    obtain ⟨W1, hW1⟩ : ∃ W1, Hid (wr.alloc (.cells #[.slice a0 n0 c0, .slice a1 n1 c1, .slice a2 n2 c2] 78) = W1) := ⟨_, rfl⟩
    rw [hW1.out] at HB1 HO1 ⊢
    have hA2 := below_al W1 (.cells #[.int .i64 (k : Int)] 3)
    have HO2 := hide (HO1.out.alloc (.cells #[.int .i64 (k : Int)] 3))
    have HB2 := hide (HB1.out.trans (hA2.mono HB1.out.size))
    have HCE : Hid (∀ j u, ([.int .i64 (k : Int)] : List Value)[j]? = some u → (W1.alloc (.cells #[.int .i64 (k : Int)] 3)).cell? ((⟨W1.heap.size, 0, none⟩ : Addr).add j) = some u) := one_cell W1 _
    have H1c : Hid (∀ u ∈ ([.int .i64 (k : Int)] : List Value), u.oneCell' = true) := fun u hu => by simp at hu; subst hu; rfl
    have HX := hide (show m + 1 ≤ maxLen by have := hmk.out; unfold maxLen; omega)
    have HY := hide (show (m + 1) * 8 ≤ 140737488355328 by have := hmk.out; omega)
    have HZ := hide HB2.out.size
    clear hA2 hc0 hc1 hc2 HH hW1
    go_wp2_with (refine wpList_append_own _ rfl (.tmp 20) (.tmp 22) 31 rfl w.heap.size 3 i0 (.int .i64 0) 1 8 Try.underlying31 hi hz0 hz1 hz2 rfl (by decide) u5 m _ rfl HO2.out ⟨W1.heap.size, 0, none⟩ 1 1 [.int .i64 (k : Int)] rfl rfl HCE.out H1c.out HX.out HY.out HZ.out ?_; intro v' W' r1 r2 r3)
    have HR1 : Hid (W'.ownsRow w.heap.size 3 1 v' (m + 1) ((numsL (fun i => hasB (L.getD (3 * i) []) q) (k + 1)).map (Value.int .i64))) := by
      show World.ownsRow _ _ _ _ _ _ _
      rw [HN.out, List.map_append]; exact r1
    have HB3 := hide (own_below HO2.out r2 HB2.out HB2.out.size (Nat.le_refl _))
    clear r1 r2 r3
    go_wp2_with fail
    go_roundw
    case rel => exact ⟨k + 1, m + 1, by omega, by go_num, Nat.succ_le_succ hmk.out, HR1, HB3⟩
    case measure => simp [intOf]; omega

set_option maxHeartbeats 1000000 in
theorem giversS_any (p q : Int) (a : Option Addr) (n c : Nat) (L : List (List Int)) (w : World) (h : Lists w a (3 * n) L) (hs : sizeN n L ≤ 1048576) (hn : n ≤ 24) :
    Calls Try.prog 77 #[.agg #[.int .i64 p, .slice a n c], .int .i64 q] w fun e w' => NumsEnd (fun i => hasB (L.getD (3 * i + 1) []) q) n w e w' := by
  have hAl := below_al w (.cells #[.int .i64 p, .slice a n c] 26)
  have HL := hide h
  have HB0 := hide hAl
  have hs' : n + sizeL L ≤ 1048576 := hs
  obtain ⟨i0, hi, hz0, hz1, hz2⟩ := info_split Try.info3
  clear h hAl
  go_enter Try.func77, Try.ntmps77
  go_wp2_with fail
  obtain ⟨V, hV⟩ : ∃ V, Hid (w.alloc (.cells #[.int .i64 p, .slice a n c] 26) = V) := ⟨_, rfl⟩
  rw [hV.out] at HB0 ⊢
  clear hV
  go_loopw [5, 11] (fun o i wr => ∃ k m : Nat, k ≤ n ∧ i = .int .i64 k ∧ Hid (m ≤ k) ∧ Hid (wr.ownsRow w.heap.size 3 1 o m ((numsL (fun i => hasB (L.getD (3 * i + 1) []) q) k).map (Value.int .i64))) ∧ Hid (Below w.heap.size w wr)) (fun _ i _ => n - (intOf i).toNat)
  case atStart => exact ⟨0, 0, Nat.zero_le _, rfl, Nat.le_refl _, World.ownsRow_nil _ _ _ _, HB0⟩
  case round =>
    obtain ⟨k, m, hk, rfl, hmk, hown, hbw⟩ := hrel
    by_cases hlt : k < n
    rotate_left
    · have hk' : k = n := by omega
      subst hk'
      go_wp2_with fail
      go_ret
      exact ⟨_, m, rfl, hown.out, hbw.out⟩
    obtain ⟨b, off, a0, n0, c0, a1, n1, c1, a2, n2, c2, rfl, hb, hr, m0, m1, m2, r0, r1, r2⟩ := (HL.out.below hbw.out).tri hlt
    obtain ⟨hc0, hc1, hc2⟩ := rangeAt_cells3 hr
    have hl := len_le L (3 * k + 1)
    have hA1 := below_al wr (.cells #[.slice a0 n0 c0, .slice a1 n1 c1, .slice a2 n2 c2] 78)
    have q0 : n1 ≤ 1048576 := by have := r1.1; omega
    have HH := hide (has_any _ _ c1 _ q _ (r1.below hA1) q0)
    have HB1 := hide (hbw.out.trans (hA1.mono hbw.out.size))
    have HO1 := hide (hown.out.alloc (.cells #[.slice a0 n0 c0, .slice a1 n1 c1, .slice a2 n2 c2] 78))
    clear hr r0 r1 r2 m0 m1 m2 hl hA1
    by_cases hh : hasB (L.getD (3 * k + 1) []) q = true
    rotate_left
    · have hh' : hasB (L.getD (3 * k + 1) []) q = false := by simpa using hh
      have HN := hide (numsL_no (f := fun i => hasB (L.getD (3 * i + 1) []) q) hh')
      rw [hh'] at HH
      clear hh hh' hown
      go_wp2_with fail
      refine HH.out.mono ?_
      rintro e w' ⟨rfl, rfl⟩
      go_wp2_with fail
      go_roundw
      case rel => exact ⟨k + 1, m, by omega, by go_num, Nat.le_succ_of_le hmk.out, by rw [HN.out]; exact HO1, HB1⟩
      case measure => simp [intOf]; omega
    have HN := hide (numsL_yes (f := fun i => hasB (L.getD (3 * i + 1) []) q) hh)
    rw [hh] at HH
    clear hh hown
    go_wp2_with fail
    refine HH.out.mono ?_
    rintro e w' ⟨rfl, rfl⟩
    obtain ⟨W1, hW1⟩ : ∃ W1, Hid (wr.alloc (.cells #[.slice a0 n0 c0, .slice a1 n1 c1, .slice a2 n2 c2] 78) = W1) := ⟨_, rfl⟩
    rw [hW1.out] at HB1 HO1 ⊢
    have hA2 := below_al W1 (.cells #[.int .i64 (k : Int)] 3)
    have HO2 := hide (HO1.out.alloc (.cells #[.int .i64 (k : Int)] 3))
    have HB2 := hide (HB1.out.trans (hA2.mono HB1.out.size))
    have HCE : Hid (∀ j u, ([.int .i64 (k : Int)] : List Value)[j]? = some u → (W1.alloc (.cells #[.int .i64 (k : Int)] 3)).cell? ((⟨W1.heap.size, 0, none⟩ : Addr).add j) = some u) := one_cell W1 _
    have H1c : Hid (∀ u ∈ ([.int .i64 (k : Int)] : List Value), u.oneCell' = true) := fun u hu => by simp at hu; subst hu; rfl
    have HX := hide (show m + 1 ≤ maxLen by have := hmk.out; unfold maxLen; omega)
    have HY := hide (show (m + 1) * 8 ≤ 140737488355328 by have := hmk.out; omega)
    have HZ := hide HB2.out.size
    clear hA2 hc0 hc1 hc2 HH hW1
    go_wp2_with (refine wpList_append_own _ rfl (.tmp 20) (.tmp 22) 31 rfl w.heap.size 3 i0 (.int .i64 0) 1 8 Try.underlying31 hi hz0 hz1 hz2 rfl (by decide) u5 m _ rfl HO2.out ⟨W1.heap.size, 0, none⟩ 1 1 [.int .i64 (k : Int)] rfl rfl HCE.out H1c.out HX.out HY.out HZ.out ?_; intro v' W' r1 r2 r3)
    have HR1 : Hid (W'.ownsRow w.heap.size 3 1 v' (m + 1) ((numsL (fun i => hasB (L.getD (3 * i + 1) []) q) (k + 1)).map (Value.int .i64))) := by
      show World.ownsRow _ _ _ _ _ _ _
      rw [HN.out, List.map_append]; exact r1
    have HB3 := hide (own_below HO2.out r2 HB2.out HB2.out.size (Nat.le_refl _))
    clear r1 r2 r3
    go_wp2_with fail
    go_roundw
    case rel => exact ⟨k + 1, m + 1, by omega, by go_num, Nat.succ_le_succ hmk.out, HR1, HB3⟩
    case measure => simp [intOf]; omega

end Go.Proofs.Ytdhnhpjcoeglmaa


/- The specification's TakersOf and GiversOf, for every net and place. -/
namespace Go.Proofs.Ytdhnhpjcoeglmaa
open Go.RowKit

theorem netOkN' {p : Int} {n : Nat} {L : List (List Int)} (h : netOk p n L = true) : n ≤ 24 := by
  unfold netOk at h; simp at h; exact h.1.2
theorem netOkP' {p : Int} {n : Nat} {L : List (List Int)} (h : netOk p n L = true) : 1 ≤ p ∧ p ≤ 16 := by
  unfold netOk at h; simp [inB] at h; omega

def atOk (p : Int) (n : Nat) (L : List (List Int)) (q : Int) : Bool := netOk p n L && inB q 0 (p - 1)
def atR (f : Nat → Bool) (p : Int) (n : Nat) (L : List (List Int)) (q : Int) : List Int := if atOk p n L q then numsL f n else []

/-- A list and a bool; nothing that was there is written. -/
def WEnd (g : Bool) (r : List Int) (w : World) (e : Ending) (w' : World) : Prop := ∃ a n c, e = .returned (.tuple #[.slice a n c, .bool g]) ∧ Row w' a n r ∧ Below w.heap.size w w'

theorem wend_no {f : Nat → Bool} {p : Int} {n : Nat} {L : List (List Int)} {q : Int} {w w' : World} (h : atOk p n L q = false) (hb : Below w.heap.size w w') : WEnd (atOk p n L q) (atR f p n L q) w (.returned (.tuple #[.slice none 0 0, .bool false])) w' := by
  refine ⟨none, 0, 0, by rw [h], ⟨?_, .inl rfl⟩, hb⟩
  unfold atR; rw [h]; rfl

theorem wend_yes {f : Nat → Bool} {p : Int} {n : Nat} {L : List (List Int)} {q : Int} {w w' : World} {a : Option Addr} {m c : Nat} (h : atOk p n L q = true) (hr : Row w' a m (numsL f n)) (hb : Below w.heap.size w w') : WEnd (atOk p n L q) (atR f p n L q) w (.returned (.tuple #[.slice a m c, .bool true])) w' := by
  refine ⟨a, m, c, by rw [h], ?_, hb⟩
  unfold atR; rw [h]; exact hr

/-- .. in a block of its own. -/
def OEnd (g : Bool) (r : List Int) (w : World) (e : Ending) (w' : World) : Prop :=
  ∃ a b n c, e = .returned (.tuple #[.slice a n c, .bool g]) ∧ Ob w' a b n r ∧ w.heap.size ≤ b ∧ Below w.heap.size w w'

theorem own_ob {B : Nat} {w : World} {v : Value} {n : Nat} {l : List Int} (hown : w.ownsRow B 3 1 v n (l.map (Value.int .i64))) : ∃ a b c, v = .slice a n c ∧ B ≤ b ∧ Ob w a b n l := by
  have hl : l.length = n := by have := hown.1; simpa using this
  rcases hown.2 with ⟨rfl, rfl⟩ | ⟨g, cap, cur, rfl, hb, hh, hnc, _, hsz, ht⟩
  · exact ⟨none, B, 0, rfl, Nat.le_refl _, hl, .inl rfl⟩
  · refine ⟨_, g, cap, rfl, hb, hl, .inr ⟨rfl, cur, hh, by omega, fun i hi => ?_⟩⟩
    have e : (cur.toList.take (n * 1))[i]? = (l.map (Value.int .i64))[i]? := by rw [ht]
    rw [List.getElem?_take_of_lt (by omega), Array.getElem?_toList] at e
    rw [e]
    simp [List.getElem?_eq_getElem (show i < l.length by omega)]

theorem own_row {B : Nat} {w : World} {v : Value} {n : Nat} {l : List Int} (hown : w.ownsRow B 3 1 v n (l.map (Value.int .i64))) : ∃ a c, v = .slice a n c ∧ Row w a n l := by
  obtain ⟨a, b, c, e, _, ho⟩ := own_ob hown
  exact ⟨a, c, e, ho.row⟩

set_option maxHeartbeats 1000000 in
theorem takersSp_any (p q : Int) (a : Option Addr) (n c : Nat) (L : List (List Int)) (w : World) (h : Lists w a (3 * n) L) (hs : sizeN n L ≤ 1048576) :
    Calls Try.prog 18 #[.agg #[.int .i64 p, .slice a n c], .int .i64 q] w fun e w' => WEnd (atOk p n L q) (atR (fun i => hasB (L.getD (3 * i) []) q) p n L q) w e w' := by
  have hAl := below_al w (.cells #[.int .i64 p, .slice a n c] 26)
  have PAR := hide (heap_alloc_new w (.cells #[.int .i64 p, .slice a n c] 26))
  have HG := hide (goodNetS_any p a n c L _ (h.below hAl) hs)
  have HL := hide h
  have HB0 := hide hAl
  clear h hAl
  go_enter Try.func18, Try.ntmps18
  go_wp2_with fail
  refine HG.out.mono ?_
  rintro e w1 ⟨rfl, hb⟩
  have HB1 := hide (HB0.out.trans (hb.mono HB0.out.size))
  have PAR1 := hide (keep PAR.out hb)
  obtain ⟨hc0, hc1⟩ := cells2 PAR1.out
  clear HG HB0 PAR hb
  by_cases g1 : netOk p n L = true
  rotate_left
  · have g1' : netOk p n L = false := by simpa using g1
    have HN := hide (wend_no (f := fun i => hasB (L.getD (3 * i) []) q) (w := w) (show atOk p n L q = false by unfold atOk; rw [g1']; rfl) HB1.out)
    rw [g1']
    clear g1 g1'
    go_wp2_with fail
    go_ret2
    exact HN.out
  rw [g1]
  have HG1 := hide g1
  have hn24 := netOkN' g1
  have hp := netOkP' g1
  obtain ⟨hp1, hp2⟩ := hp
  clear g1
  by_cases g2 : inB q 0 (p - 1) = true
  rotate_left
  · have g2' : inB q 0 (p - 1) = false := by simpa using g2
    have HN := hide (wend_no (f := fun i => hasB (L.getD (3 * i) []) q) (w := w) (show atOk p n L q = false by unfold atOk; rw [g2']; simp) HB1.out)
    clear g2
    go_wp2_with (go_at_call 74; refine (in_any _ _ _ _).mono ?_; rintro e w' ⟨rfl, rfl⟩)
    go_ret2
    exact HN.out
  have HOK := hide (show atOk p n L q = true by unfold atOk; rw [HG1.out, g2]; rfl)
  go_wp2_with (go_at_call 74; refine (in_any _ _ _ _).mono ?_; rintro e w' ⟨rfl, rfl⟩)
  refine (takersS_any _ _ _ _ _ L _ (HL.out.below HB1.out) hs hn24).mono ?_
  rintro e w2 ⟨v, m, rfl, hown, hb⟩
  obtain ⟨av, cv, hv, hrow⟩ := own_row hown
  subst hv
  have HY := hide (wend_yes (f := fun i => hasB (L.getD (3 * i) []) q) (c := cv) (w := w) HOK.out hrow (HB1.out.trans (hb.mono HB1.out.size)))
  clear hown hb hrow
  go_wp2_with fail
  go_ret2
  exact HY.out

set_option maxHeartbeats 1000000 in
theorem giversSp_any (p q : Int) (a : Option Addr) (n c : Nat) (L : List (List Int)) (w : World) (h : Lists w a (3 * n) L) (hs : sizeN n L ≤ 1048576) :
    Calls Try.prog 20 #[.agg #[.int .i64 p, .slice a n c], .int .i64 q] w fun e w' => WEnd (atOk p n L q) (atR (fun i => hasB (L.getD (3 * i + 1) []) q) p n L q) w e w' := by
  have hAl := below_al w (.cells #[.int .i64 p, .slice a n c] 26)
  have PAR := hide (heap_alloc_new w (.cells #[.int .i64 p, .slice a n c] 26))
  have HG := hide (goodNetS_any p a n c L _ (h.below hAl) hs)
  have HL := hide h
  have HB0 := hide hAl
  clear h hAl
  go_enter Try.func20, Try.ntmps20
  go_wp2_with fail
  refine HG.out.mono ?_
  rintro e w1 ⟨rfl, hb⟩
  have HB1 := hide (HB0.out.trans (hb.mono HB0.out.size))
  have PAR1 := hide (keep PAR.out hb)
  obtain ⟨hc0, hc1⟩ := cells2 PAR1.out
  clear HG HB0 PAR hb
  by_cases g1 : netOk p n L = true
  rotate_left
  · have g1' : netOk p n L = false := by simpa using g1
    have HN := hide (wend_no (f := fun i => hasB (L.getD (3 * i + 1) []) q) (w := w) (show atOk p n L q = false by unfold atOk; rw [g1']; rfl) HB1.out)
    rw [g1']
    clear g1 g1'
    go_wp2_with fail
    go_ret2
    exact HN.out
  rw [g1]
  have HG1 := hide g1
  have hn24 := netOkN' g1
  have hp := netOkP' g1
  obtain ⟨hp1, hp2⟩ := hp
  clear g1
  by_cases g2 : inB q 0 (p - 1) = true
  rotate_left
  · have g2' : inB q 0 (p - 1) = false := by simpa using g2
    have HN := hide (wend_no (f := fun i => hasB (L.getD (3 * i + 1) []) q) (w := w) (show atOk p n L q = false by unfold atOk; rw [g2']; simp) HB1.out)
    clear g2
    go_wp2_with (go_at_call 74; refine (in_any _ _ _ _).mono ?_; rintro e w' ⟨rfl, rfl⟩)
    go_ret2
    exact HN.out
  have HOK := hide (show atOk p n L q = true by unfold atOk; rw [HG1.out, g2]; rfl)
  go_wp2_with (go_at_call 74; refine (in_any _ _ _ _).mono ?_; rintro e w' ⟨rfl, rfl⟩)
  refine (giversS_any _ _ _ _ _ L _ (HL.out.below HB1.out) hs hn24).mono ?_
  rintro e w2 ⟨v, m, rfl, hown, hb⟩
  obtain ⟨av, cv, hv, hrow⟩ := own_row hown
  subst hv
  have HY := hide (wend_yes (f := fun i => hasB (L.getD (3 * i + 1) []) q) (c := cv) (w := w) HOK.out hrow (HB1.out.trans (hb.mono HB1.out.size)))
  clear hown hb hrow
  go_wp2_with fail
  go_ret2
  exact HY.out

end Go.Proofs.Ytdhnhpjcoeglmaa


/- numbersWhere of the program, and its TakersOf and GiversOf. -/
namespace Go.Proofs.Ytdhnhpjcoeglmaa
open Go.RowKit
set_option maxRecDepth 10000

theorem PartS.at2 {w : World} {B n k : Nat} {L : List (List Int)} (h : PartS w B (3 * n) (3 * n) L) (hk : k < n) :
    w.cell? ⟨B, k * 3, none⟩ = some (.int .u16 (maskL (L.getD (3 * k) []) : Int)) ∧ w.cell? ⟨B, k * 3 + 1, none⟩ = some (.int .u16 (maskL (L.getD (3 * k + 1) []) : Int)) ∧ w.cell? ⟨B, k * 3 + 2, none⟩ = some (.int .u16 (maskL (L.getD (3 * k + 2) []) : Int)) := by
  obtain ⟨C, h1, h2, h3⟩ := h
  refine ⟨?_, ?_, ?_⟩
  · rw [cell_of_row w B _ C _ _ h1, Nat.mul_comm]; exact h3 _ (by omega)
  · rw [cell_of_row w B _ C _ _ h1, Nat.mul_comm]; exact h3 _ (by omega)
  · rw [cell_of_row w B _ C _ _ h1, Nat.mul_comm]; exact h3 _ (by omega)

theorem own_grow {B : Nat} {w w' : World} {v : Value} {n : Nat} {l : List Value} (hown : w.ownsRow B 3 1 v n l) (hb : Below w.heap.size w w') : w'.ownsRow B 3 1 v n l := by
  refine ⟨hown.1, ?_⟩
  rcases hown.2 with h0 | ⟨g, cap, cur, e, h1, h2, h3⟩
  · exact .inl h0
  · exact .inr ⟨g, cap, cur, e, h1, (hb.block g (Array.getElem?_eq_some_iff.mp h2).1).trans h2, h3⟩

set_option maxHeartbeats 1000000 in
theorem numsAt_any (bj bq : Nat) (Pd : Nat → Bool) (p : Int) (B n : Nat) (L : List (List Int)) (w : World) (h : PartS w B (3 * n) (3 * n) L) (hn : n ≤ 24)
    (hc : ∀ W, Below w.heap.size w W → ∀ k, k < n → Calls Try.prog 138 #[.agg #[.int .u16 (maskL (L.getD (3 * k) []) : Int), .int .u16 (maskL (L.getD (3 * k + 1) []) : Int), .int .u16 (maskL (L.getD (3 * k + 2) []) : Int)], .pointer (some ⟨bj, 0, none⟩), .pointer (some ⟨bq, 0, none⟩)] W fun e W' => e = .returned (.bool (Pd k)) ∧ Below W.heap.size W W') :
    Calls Try.prog 119 #[.agg #[.int .i64 p, .slice (some ⟨B, 0, none⟩) n n], .func (.func 138) #[] #[.pointer (some ⟨bj, 0, none⟩), .pointer (some ⟨bq, 0, none⟩)]] w fun e w' => NumsEnd Pd n w e w' := by
  have hAl := below_al w (.cells #[.int .i64 p, .slice (some ⟨B, 0, none⟩) n n] 82)
  have HC := hide hc
  have HP := hide h
  have HB0 := hide hAl
  obtain ⟨i0, hi, hz0, hz1, hz2⟩ := info_split Try.info3
  clear hc h hAl
  go_enter Try.func119, Try.ntmps119
  go_wp2_with fail
  obtain ⟨V, hV⟩ : ∃ V, Hid (w.alloc (.cells #[.int .i64 p, .slice (some ⟨B, 0, none⟩) n n] 82) = V) := ⟨_, rfl⟩
  rw [hV.out] at HB0 ⊢
  clear hV
  go_loopw [5, 11] (fun o i wr => ∃ k m : Nat, k ≤ n ∧ i = .int .i64 k ∧ Hid (m ≤ k) ∧ Hid (wr.ownsRow w.heap.size 3 1 o m ((numsL Pd k).map (Value.int .i64))) ∧ Hid (Below w.heap.size w wr)) (fun _ i _ => n - (intOf i).toNat)
  case atStart => exact ⟨0, 0, Nat.zero_le _, rfl, Nat.le_refl _, World.ownsRow_nil _ _ _ _, HB0⟩
  case round =>
    obtain ⟨k, m, hk, rfl, hmk, hown, hbw⟩ := hrel
    by_cases hlt : k < n
    rotate_left
    · have hk' : k = n := by omega
      subst hk'
      go_wp2_with fail
      go_ret
      exact ⟨_, m, rfl, hown.out, hbw.out⟩
    obtain ⟨hc0, hc1, hc2⟩ := (HP.out.grow hbw.out).at2 hlt
    have hA1 := fun C => below_al wr (.cells C 88)
    have HH := hide (fun C => HC.out (wr.alloc (.cells C 88)) (hbw.out.trans ((hA1 C).mono hbw.out.size)) k hlt)
    have HB1 := hide (fun C => hbw.out.trans ((hA1 C).mono hbw.out.size))
    have HO1 := hide (fun C => hown.out.alloc (.cells C 88))
    obtain ⟨s0, hs0⟩ : ∃ s, Hid (maskL (L.getD (3 * k) []) = s) := ⟨_, rfl⟩
    obtain ⟨s1, hs1⟩ : ∃ s, Hid (maskL (L.getD (3 * k + 1) []) = s) := ⟨_, rfl⟩
    obtain ⟨s2, hs2⟩ : ∃ s, Hid (maskL (L.getD (3 * k + 2) []) = s) := ⟨_, rfl⟩
    rw [hs0.out] at hc0 HH
    rw [hs1.out] at hc1 HH
    rw [hs2.out] at hc2 HH
    clear hown hA1
    by_cases hh : Pd k = true
    rotate_left
    · have hh' : Pd k = false := by simpa using hh
      have HN := hide (numsL_no hh')
      rw [hh'] at HH
      clear hh hh'
      go_wp2_with fail
      refine (HH.out _).mono ?_
      rintro e w' ⟨rfl, hb⟩
      have HB2 := hide ((HB1.out _).trans (hb.mono (HB1.out _).size))
      have HO2 := hide (own_grow (HO1.out _) hb)
      clear hb HH HB1 HO1 hc0 hc1 hc2
      go_wp2_with fail
      go_roundw
      case rel => exact ⟨k + 1, m, by omega, by go_num, Nat.le_succ_of_le hmk.out, by rw [HN.out]; exact HO2, HB2⟩
      case measure => simp [intOf]; omega
    have HN := hide (numsL_yes hh)
    rw [hh] at HH
    clear hh
    go_wp2_with fail
    refine (HH.out _).mono ?_
    rintro e W1 ⟨rfl, hb⟩
    have HB1 := hide ((HB1.out _).trans (hb.mono (HB1.out _).size))
    have HO1 := hide (own_grow (HO1.out _) hb)
    have hA2 := below_al W1 (.cells #[.int .i64 (k : Int)] 3)
    have HO2 := hide (HO1.out.alloc (.cells #[.int .i64 (k : Int)] 3))
    have HB2 := hide (HB1.out.trans (hA2.mono HB1.out.size))
    have HCE : Hid (∀ j u, ([.int .i64 (k : Int)] : List Value)[j]? = some u → (W1.alloc (.cells #[.int .i64 (k : Int)] 3)).cell? ((⟨W1.heap.size, 0, none⟩ : Addr).add j) = some u) := one_cell W1 _
    have H1c : Hid (∀ u ∈ ([.int .i64 (k : Int)] : List Value), u.oneCell' = true) := fun u hu => by simp at hu; subst hu; rfl
    have HX := hide (show m + 1 ≤ maxLen by have := hmk.out; unfold maxLen; omega)
    have HY := hide (show (m + 1) * 8 ≤ 140737488355328 by have := hmk.out; omega)
    have HZ := hide HB2.out.size
    clear hA2 hc0 hc1 hc2 HH hb
    go_wp2_with (refine wpList_append_own _ rfl (.tmp 19) (.tmp 21) 31 rfl w.heap.size 3 i0 (.int .i64 0) 1 8 Try.underlying31 hi hz0 hz1 hz2 rfl (by decide) u5 m _ rfl HO2.out ⟨W1.heap.size, 0, none⟩ 1 1 [.int .i64 (k : Int)] rfl rfl HCE.out H1c.out HX.out HY.out HZ.out ?_; intro v' W' r1 r2 r3)
    have HR1 : Hid (W'.ownsRow w.heap.size 3 1 v' (m + 1) ((numsL Pd (k + 1)).map (Value.int .i64))) := by
      show World.ownsRow _ _ _ _ _ _ _
      rw [HN.out, List.map_append]; exact r1
    have HB3 := hide (own_below HO2.out r2 HB2.out HB2.out.size (Nat.le_refl _))
    clear r1 r2 r3
    go_wp2_with fail
    go_roundw
    case rel => exact ⟨k + 1, m + 1, by omega, by go_num, Nat.succ_le_succ hmk.out, HR1, HB3⟩
    case measure => simp [intOf]; omega

end Go.Proofs.Ytdhnhpjcoeglmaa


/- The program's TakersOf and GiversOf, for every net and place. -/
namespace Go.Proofs.Ytdhnhpjcoeglmaa
open Go.RowKit
set_option maxRecDepth 10000

theorem triOkT {p : Int} {n i : Nat} {L : List (List Int)} (h : netOk p n L = true) (hi : i < n) : triOk p L i = true := by
  unfold netOk at h
  rw [Bool.and_eq_true] at h
  exact List.all_eq_true.mp h.2 i (by simpa using hi)

theorem tri_riseT {p : Int} {L : List (List Int)} {i : Nat} (h : triOk p L i = true) : riseB (L.getD (3 * i) []) 0 (p - 1) = true ∧ riseB (L.getD (3 * i + 1) []) 0 (p - 1) = true ∧ riseB (L.getD (3 * i + 2) []) 0 (p - 1) = true := by
  unfold triOk at h
  simp only [Bool.and_eq_true] at h
  exact ⟨h.1.1.2, h.1.2, h.2⟩

theorem mask16T {p : Int} {xs : List Int} (h : riseB xs 0 (p - 1) = true) (hp : 1 ≤ p ∧ p ≤ 16) : maskL xs < 2 ^ 16 := by
  refine maskL_lt _ fun x hx => ?_
  have := riseB_mem h x hx
  omega

theorem oend_no {f : Nat → Bool} {p : Int} {n : Nat} {L : List (List Int)} {q : Int} {w w' : World} (h : atOk p n L q = false) (hb : Below w.heap.size w w') : OEnd (atOk p n L q) (atR f p n L q) w (.returned (.tuple #[.slice none 0 0, .bool false])) w' := by
  refine ⟨none, w.heap.size, 0, 0, by rw [h], ⟨?_, .inl rfl⟩, Nat.le_refl _, hb⟩
  unfold atR; rw [h]; rfl

theorem oend_yes {f : Nat → Bool} {p : Int} {n : Nat} {L : List (List Int)} {q : Int} {w w' : World} {a : Option Addr} {b m c : Nat} (h : atOk p n L q = true) (hr : Ob w' a b m (numsL f n)) (hB : w.heap.size ≤ b) (hb : Below w.heap.size w w') : OEnd (atOk p n L q) (atR f p n L q) w (.returned (.tuple #[.slice a m c, .bool true])) w' := by
  refine ⟨a, b, m, c, by rw [h], ?_, hB, hb⟩
  unfold atR; rw [h]; exact hr

theorem lacksT_any (p q : Int) (a : Option Addr) (n c : Nat) (w : World) :
    Calls Try.prog 137 #[.agg #[.int .i64 p, .slice a n c], .int .i64 q] w fun e w' => e = .returned (.bool (!inB q 0 (p - 1))) ∧ Below w.heap.size w w' := by
  have HX : Hid (∀ b : Bool, (b = true ↔ q < 0 ∨ p ≤ q) → b = !inB q 0 (p - 1)) := by
    intro b hb
    unfold inB
    cases b
    · have : ¬ (q < 0 ∨ p ≤ q) := fun h => by simpa using hb.mpr h
      simp; omega
    · have := hb.mp rfl
      simp; omega
  by_cases h0 : q < 0
  · go_enter Try.func137, Try.ntmps137
    go_wp2_with fail
    go_ret
    exact ⟨ret_bool (HX.out true (by simp [h0])), below_al _ _⟩
  by_cases h1 : p ≤ q
  · go_enter Try.func137, Try.ntmps137
    go_wp2_with fail
    go_ret
    exact ⟨ret_bool (HX.out true (by simp [h1])), below_al _ _⟩
  · go_enter Try.func137, Try.ntmps137
    go_wp2_with fail
    go_ret
    exact ⟨ret_bool (HX.out false (by simp; omega)), below_al _ _⟩

set_option maxHeartbeats 400000 in
theorem takes_any (s0 s1 s2 k : Nat) (w : World) (hs : s0 < 2 ^ 16) (hk : k < 16) :
    Calls Try.prog 73 #[.agg #[.int .u16 (s0 : Int), .int .u16 (s1 : Int), .int .u16 (s2 : Int)], .int .i64 (k : Int)] w fun e w' => e = .returned (.bool (s0.testBit k)) ∧ Below w.heap.size w w' := by
  go_enter Try.func73, Try.ntmps73
  go_wp2_with fail
  refine (hasI_any s0 k _ hs hk).mono ?_
  rintro e w' ⟨rfl, rfl⟩
  obtain ⟨b, hb⟩ : ∃ b, Hid (s0.testBit k = b) := ⟨_, rfl⟩
  rw [hb.out]
  go_wp2_with fail
  go_ret
  exact ⟨by rw [hb.out]; rfl, below_al _ _⟩

set_option maxHeartbeats 400000 in
theorem takesCl_any (s0 s1 s2 k bj bq : Nat) (w : World) (hs : s0 < 2 ^ 16) (hk : k < 16) (hj : w.cell? ⟨bj, 0, none⟩ = some (.func (.func 73) #[] #[])) (hq : w.cell? ⟨bq, 0, none⟩ = some (.int .i64 (k : Int))) (hbj : bj < w.heap.size) (hbq : bq < w.heap.size) :
    Calls Try.prog 138 #[.agg #[.int .u16 (s0 : Int), .int .u16 (s1 : Int), .int .u16 (s2 : Int)], .pointer (some ⟨bj, 0, none⟩), .pointer (some ⟨bq, 0, none⟩)] w fun e w' => e = .returned (.bool (s0.testBit k)) ∧ Below w.heap.size w w' := by
  go_enter Try.func138, Try.ntmps138
  go_wp2_with fail
  refine (takes_any s0 s1 s2 k _ hs hk).mono ?_
  rintro e w1 ⟨rfl, hb1⟩
  have HB := hide ((below_al w (.cells #[.int .u16 (s0 : Int), .int .u16 (s1 : Int), .int .u16 (s2 : Int)] 88)).trans (hb1.mono (by simp)))
  obtain ⟨b, hb⟩ : ∃ b, Hid (s0.testBit k = b) := ⟨_, rfl⟩
  rw [hb.out]
  clear hb1
  go_wp2_with fail
  go_ret
  exact ⟨by rw [hb.out]; rfl, HB.out⟩

set_option maxHeartbeats 2000000 in
theorem takesAt_any (p q : Int) (a : Option Addr) (n c : Nat) (L : List (List Int)) (w : World) (h : Lists w a (3 * n) L) (hs : sizeN n L ≤ 1048576) :
    Calls Try.prog 72 #[.agg #[.int .i64 p, .slice a n c], .int .i64 q, .func (.func 73) #[] #[]] w fun e w' => OEnd (atOk p n L q) (atR (fun i => hasB (L.getD (3 * i) []) q) p n L q) w e w' := by
  have hAl := ((below_al w (.cells #[.int .i64 p, .slice a n c] 26)).alloc (by simp) (.cells #[.int .i64 q] 3)).alloc (by simp; omega) (.cells #[.func (.func 73) #[] #[]] 101)
  have P1 : (((w.alloc (.cells #[.int .i64 p, .slice a n c] 26)).alloc (.cells #[.int .i64 q] 3)).alloc (.cells #[.func (.func 73) #[] #[]] 101)).heap[w.heap.size + 1]? = some (.cells #[.int .i64 q] 3 (0, 0)) := by
    rw [heap_al_old _ _ _ (by simp)]
    have := heap_alloc_new (w.alloc (.cells #[.int .i64 p, .slice a n c] 26)) (.cells #[.int .i64 q] 3)
    simpa using this
  have P2 : (((w.alloc (.cells #[.int .i64 p, .slice a n c] 26)).alloc (.cells #[.int .i64 q] 3)).alloc (.cells #[.func (.func 73) #[] #[]] 101)).heap[w.heap.size + 1 + 1]? = some (.cells #[.func (.func 73) #[] #[]] 101 (0, 0)) := by
    have := heap_alloc_new ((w.alloc (.cells #[.int .i64 p, .slice a n c] 26)).alloc (.cells #[.int .i64 q] 3)) (.cells #[.func (.func 73) #[] #[]] 101)
    simpa using this
  have HNS := hide (netSteps_any p a n c L _ (h.below hAl) hs)
  have HB0 := hide hAl
  have HP := hide (And.intro P1 P2)
  clear h hAl P1 P2
  go_enter Try.func72, Try.ntmps72
  go_wp2_with fail
  refine HNS.out.mono ?_
  rintro e w2 ⟨p', a', m, c', rfl, hx, hb⟩
  have hA := below_al w2 (.cells #[.int .i64 p', .slice a' m c'] 82)
  have hbA := hb.trans (hA.mono hb.size)
  have HB1 := hide (HB0.out.trans (hbA.mono HB0.out.size))
  have HP1 := hide (And.intro (keep HP.out.1 hbA) (keep HP.out.2 hbA))
  have hq1 := cell_of_row _ (w.heap.size + 1) 0 _ _ _ (keep HP.out.1 hb)
  simp at hq1
  have hlq := row_lt (keep HP.out.1 hb)
  have hl2 := row_lt (keep HP.out.2 hb)
  have hz := HB0.out.size
  clear HNS HB0 HP
  by_cases hg : netOk p n L = true
  rotate_left
  · have hg' : netOk p n L = false := by simpa using hg
    have HN : Hid (OEnd (atOk p n L q) (atR (fun i => hasB (L.getD (3 * i) []) q) p n L q) w (.returned (.tuple #[.slice none 0 0, .bool false])) (w2.alloc (.cells #[.int .i64 p', .slice a' m c'] 82))) := oend_no (show atOk p n L q = false by unfold atOk; rw [hg']; rfl) HB1.out
    rw [hg']
    clear hg hg' hx hb hA hbA
    go_wp2_with fail
    go_ret2
    exact HN.out
  obtain ⟨e1, e2, e3, B, e4, hBs, hps⟩ := hx.out hg
  subst e1 e2 e3 e4
  rw [hg]
  have HG := hide hg
  have hn24 := netOkN' hg
  obtain ⟨hp1, hp2⟩ := netOkP' hg
  have HPS := hide (hps.grow hA)
  clear hg hx hb hA hbA hps
  have HV := hide (heap_alloc_new w2 (.cells #[.int .i64 p', .slice (some ⟨B, 0, none⟩) c' c'] 82))
  go_wp2_with fail
  refine (lacksT_any _ _ _ _ _ _).mono ?_
  rintro e w3 ⟨rfl, hb3⟩
  have HB2 := hide (HB1.out.trans (hb3.mono HB1.out.size))
  have HP2 := hide (And.intro (keep HP1.out.1 hb3) (keep HP1.out.2 hb3))
  have HPS2 := hide (HPS.out.grow hb3)
  obtain ⟨hv0, hv1⟩ := cells2 (keep HV.out hb3)
  have hq1 := cell_of_row _ (w.heap.size + 1) 0 _ _ _ HP2.out.1
  simp at hq1
  clear hb3 HB1 HP1 HPS HV
  by_cases g2 : inB q 0 (p' - 1) = true
  rotate_left
  · have g2' : inB q 0 (p' - 1) = false := by simpa using g2
    have HN : Hid (OEnd (atOk p' c' L q) (atR (fun i => hasB (L.getD (3 * i) []) q) p' c' L q) w (.returned (.tuple #[.slice none 0 0, .bool false])) w3) := oend_no (show atOk p' c' L q = false by unfold atOk; rw [g2']; simp) HB2.out
    rw [g2']
    clear g2 g2'
    go_wp2_with fail
    go_ret2
    exact HN.out
  rw [g2]
  have hqb : 0 ≤ q ∧ q ≤ p' - 1 := by simpa [inB] using g2
  obtain ⟨k, rfl⟩ : ∃ k : Nat, q = (k : Int) := ⟨q.toNat, by omega⟩
  have hk16 : k < 16 := by omega
  have hk0 : ¬ (k : Int) < 0 := by omega
  have hkp : ¬ p' ≤ (k : Int) := by omega
  have HOK := hide (show atOk p' c' L (k : Int) = true by unfold atOk; rw [HG.out, g2]; rfl)
  have HC := hide (numsAt_any (w.heap.size + 1 + 1) (w.heap.size + 1) (fun i => hasB (L.getD (3 * i) []) (k : Int)) p' B c' L w3 HPS2.out hn24 (fun W1 hW1 i hi => by
    have htri := tri_riseT (triOkT HG.out hi)
    have hm := mask16T htri.1 ⟨hp1, hp2⟩
    have hc := takesCl_any (maskL (L.getD (3 * i) [])) (maskL (L.getD (3 * i + 1) [])) (maskL (L.getD (3 * i + 2) [])) k (w.heap.size + 1 + 1) (w.heap.size + 1) W1 hm hk16 (cell_of_row W1 _ 0 _ _ _ (keep HP2.out.2 hW1)) (cell_of_row W1 _ 0 _ _ _ (keep HP2.out.1 hW1)) (row_lt (keep HP2.out.2 hW1)) (row_lt (keep HP2.out.1 hW1))
    rw [maskL_bit _ _ (fun z hz => (riseB_mem htri.1 z hz).1)] at hc
    rw [show hasB (L.getD (3 * i) []) (k : Int) = decide ((k : Int) ∈ L.getD (3 * i) []) by unfold hasB; simp]
    exact hc))
  clear g2 hqb
  go_wp2_with fail
  refine HC.out.mono ?_
  rintro e w4 ⟨v, mm, rfl, hown, hb⟩
  obtain ⟨av, bv, cv, hv, hbv, hob⟩ := own_ob hown
  subst hv
  have HY : Hid (OEnd (atOk p' c' L (k : Int)) (atR (fun i => hasB (L.getD (3 * i) []) (k : Int)) p' c' L (k : Int)) w (.returned (.tuple #[.slice av mm cv, .bool true])) w4) := oend_yes HOK.out hob (by have := HB2.out.size; omega) (HB2.out.trans (hb.mono HB2.out.size))
  clear hown hb hob HC
  go_wp2_with fail
  go_ret2
  exact HY.out

set_option maxHeartbeats 400000 in
theorem takesI_any (p q : Int) (a : Option Addr) (n c : Nat) (L : List (List Int)) (w : World) (h : Lists w a (3 * n) L) (hs : sizeN n L ≤ 1048576) :
    Calls Try.prog 17 #[.agg #[.int .i64 p, .slice a n c], .int .i64 q] w fun e w' => OEnd (atOk p n L q) (atR (fun i => hasB (L.getD (3 * i) []) q) p n L q) w e w' := by
  have hAl := below_al w (.cells #[.int .i64 p, .slice a n c] 26)
  have HT := hide (takesAt_any p q a n c L _ (h.below hAl) hs)
  have HB0 := hide hAl
  clear h hAl
  go_enter Try.func17, Try.ntmps17
  go_wp2_with fail
  refine HT.out.mono ?_
  rintro e w1 ⟨av, bv, nv, cv, rfl, hob, hbv, hb⟩
  have HE : Hid (OEnd (atOk p n L q) (atR (fun i => hasB (L.getD (3 * i) []) q) p n L q) w (.returned (.tuple #[.slice av nv cv, .bool (atOk p n L q)])) w1) := ⟨av, bv, nv, cv, rfl, hob, by have := HB0.out.size; omega, HB0.out.trans (hb.mono HB0.out.size)⟩
  obtain ⟨g, hg⟩ : ∃ g, Hid (atOk p n L q = g) := ⟨_, rfl⟩
  have HE2 : Hid (OEnd (atOk p n L q) (atR (fun i => hasB (L.getD (3 * i) []) q) p n L q) w (.returned (.tuple #[.slice av nv cv, .bool g])) w1) := by have := HE.out; rw [hg.out] at this; rw [hg.out]; exact this
  rw [hg.out]
  clear hob hb HT HE
  go_wp2_with fail
  go_ret2
  exact HE2.out

set_option maxHeartbeats 400000 in
theorem gives_any (s0 s1 s2 k : Nat) (w : World) (hs : s1 < 2 ^ 16) (hk : k < 16) :
    Calls Try.prog 76 #[.agg #[.int .u16 (s0 : Int), .int .u16 (s1 : Int), .int .u16 (s2 : Int)], .int .i64 (k : Int)] w fun e w' => e = .returned (.bool (s1.testBit k)) ∧ Below w.heap.size w w' := by
  go_enter Try.func76, Try.ntmps76
  go_wp2_with fail
  refine (hasI_any s1 k _ hs hk).mono ?_
  rintro e w' ⟨rfl, rfl⟩
  obtain ⟨b, hb⟩ : ∃ b, Hid (s1.testBit k = b) := ⟨_, rfl⟩
  rw [hb.out]
  go_wp2_with fail
  go_ret
  exact ⟨by rw [hb.out]; rfl, below_al _ _⟩

set_option maxHeartbeats 400000 in
theorem givesCl_any (s0 s1 s2 k bj bq : Nat) (w : World) (hs : s1 < 2 ^ 16) (hk : k < 16) (hj : w.cell? ⟨bj, 0, none⟩ = some (.func (.func 76) #[] #[])) (hq : w.cell? ⟨bq, 0, none⟩ = some (.int .i64 (k : Int))) (hbj : bj < w.heap.size) (hbq : bq < w.heap.size) :
    Calls Try.prog 138 #[.agg #[.int .u16 (s0 : Int), .int .u16 (s1 : Int), .int .u16 (s2 : Int)], .pointer (some ⟨bj, 0, none⟩), .pointer (some ⟨bq, 0, none⟩)] w fun e w' => e = .returned (.bool (s1.testBit k)) ∧ Below w.heap.size w w' := by
  go_enter Try.func138, Try.ntmps138
  go_wp2_with fail
  refine (gives_any s0 s1 s2 k _ hs hk).mono ?_
  rintro e w1 ⟨rfl, hb1⟩
  have HB := hide ((below_al w (.cells #[.int .u16 (s0 : Int), .int .u16 (s1 : Int), .int .u16 (s2 : Int)] 88)).trans (hb1.mono (by simp)))
  obtain ⟨b, hb⟩ : ∃ b, Hid (s1.testBit k = b) := ⟨_, rfl⟩
  rw [hb.out]
  clear hb1
  go_wp2_with fail
  go_ret
  exact ⟨by rw [hb.out]; rfl, HB.out⟩

set_option maxHeartbeats 2000000 in
theorem givesAt_any (p q : Int) (a : Option Addr) (n c : Nat) (L : List (List Int)) (w : World) (h : Lists w a (3 * n) L) (hs : sizeN n L ≤ 1048576) :
    Calls Try.prog 72 #[.agg #[.int .i64 p, .slice a n c], .int .i64 q, .func (.func 76) #[] #[]] w fun e w' => OEnd (atOk p n L q) (atR (fun i => hasB (L.getD (3 * i + 1) []) q) p n L q) w e w' := by
  have hAl := ((below_al w (.cells #[.int .i64 p, .slice a n c] 26)).alloc (by simp) (.cells #[.int .i64 q] 3)).alloc (by simp; omega) (.cells #[.func (.func 76) #[] #[]] 101)
  have P1 : (((w.alloc (.cells #[.int .i64 p, .slice a n c] 26)).alloc (.cells #[.int .i64 q] 3)).alloc (.cells #[.func (.func 76) #[] #[]] 101)).heap[w.heap.size + 1]? = some (.cells #[.int .i64 q] 3 (0, 0)) := by
    rw [heap_al_old _ _ _ (by simp)]
    have := heap_alloc_new (w.alloc (.cells #[.int .i64 p, .slice a n c] 26)) (.cells #[.int .i64 q] 3)
    simpa using this
  have P2 : (((w.alloc (.cells #[.int .i64 p, .slice a n c] 26)).alloc (.cells #[.int .i64 q] 3)).alloc (.cells #[.func (.func 76) #[] #[]] 101)).heap[w.heap.size + 1 + 1]? = some (.cells #[.func (.func 76) #[] #[]] 101 (0, 0)) := by
    have := heap_alloc_new ((w.alloc (.cells #[.int .i64 p, .slice a n c] 26)).alloc (.cells #[.int .i64 q] 3)) (.cells #[.func (.func 76) #[] #[]] 101)
    simpa using this
  have HNS := hide (netSteps_any p a n c L _ (h.below hAl) hs)
  have HB0 := hide hAl
  have HP := hide (And.intro P1 P2)
  clear h hAl P1 P2
  go_enter Try.func72, Try.ntmps72
  go_wp2_with fail
  refine HNS.out.mono ?_
  rintro e w2 ⟨p', a', m, c', rfl, hx, hb⟩
  have hA := below_al w2 (.cells #[.int .i64 p', .slice a' m c'] 82)
  have hbA := hb.trans (hA.mono hb.size)
  have HB1 := hide (HB0.out.trans (hbA.mono HB0.out.size))
  have HP1 := hide (And.intro (keep HP.out.1 hbA) (keep HP.out.2 hbA))
  have hq1 := cell_of_row _ (w.heap.size + 1) 0 _ _ _ (keep HP.out.1 hb)
  simp at hq1
  have hlq := row_lt (keep HP.out.1 hb)
  have hl2 := row_lt (keep HP.out.2 hb)
  have hz := HB0.out.size
  clear HNS HB0 HP
  by_cases hg : netOk p n L = true
  rotate_left
  · have hg' : netOk p n L = false := by simpa using hg
    have HN : Hid (OEnd (atOk p n L q) (atR (fun i => hasB (L.getD (3 * i + 1) []) q) p n L q) w (.returned (.tuple #[.slice none 0 0, .bool false])) (w2.alloc (.cells #[.int .i64 p', .slice a' m c'] 82))) := oend_no (show atOk p n L q = false by unfold atOk; rw [hg']; rfl) HB1.out
    rw [hg']
    clear hg hg' hx hb hA hbA
    go_wp2_with fail
    go_ret2
    exact HN.out
  obtain ⟨e1, e2, e3, B, e4, hBs, hps⟩ := hx.out hg
  subst e1 e2 e3 e4
  rw [hg]
  have HG := hide hg
  have hn24 := netOkN' hg
  obtain ⟨hp1, hp2⟩ := netOkP' hg
  have HPS := hide (hps.grow hA)
  clear hg hx hb hA hbA hps
  have HV := hide (heap_alloc_new w2 (.cells #[.int .i64 p', .slice (some ⟨B, 0, none⟩) c' c'] 82))
  go_wp2_with fail
  refine (lacksT_any _ _ _ _ _ _).mono ?_
  rintro e w3 ⟨rfl, hb3⟩
  have HB2 := hide (HB1.out.trans (hb3.mono HB1.out.size))
  have HP2 := hide (And.intro (keep HP1.out.1 hb3) (keep HP1.out.2 hb3))
  have HPS2 := hide (HPS.out.grow hb3)
  obtain ⟨hv0, hv1⟩ := cells2 (keep HV.out hb3)
  have hq1 := cell_of_row _ (w.heap.size + 1) 0 _ _ _ HP2.out.1
  simp at hq1
  clear hb3 HB1 HP1 HPS HV
  by_cases g2 : inB q 0 (p' - 1) = true
  rotate_left
  · have g2' : inB q 0 (p' - 1) = false := by simpa using g2
    have HN : Hid (OEnd (atOk p' c' L q) (atR (fun i => hasB (L.getD (3 * i + 1) []) q) p' c' L q) w (.returned (.tuple #[.slice none 0 0, .bool false])) w3) := oend_no (show atOk p' c' L q = false by unfold atOk; rw [g2']; simp) HB2.out
    rw [g2']
    clear g2 g2'
    go_wp2_with fail
    go_ret2
    exact HN.out
  rw [g2]
  have hqb : 0 ≤ q ∧ q ≤ p' - 1 := by simpa [inB] using g2
  obtain ⟨k, rfl⟩ : ∃ k : Nat, q = (k : Int) := ⟨q.toNat, by omega⟩
  have hk16 : k < 16 := by omega
  have hk0 : ¬ (k : Int) < 0 := by omega
  have hkp : ¬ p' ≤ (k : Int) := by omega
  have HOK := hide (show atOk p' c' L (k : Int) = true by unfold atOk; rw [HG.out, g2]; rfl)
  have HC := hide (numsAt_any (w.heap.size + 1 + 1) (w.heap.size + 1) (fun i => hasB (L.getD (3 * i + 1) []) (k : Int)) p' B c' L w3 HPS2.out hn24 (fun W1 hW1 i hi => by
    have htri := tri_riseT (triOkT HG.out hi)
    have hm := mask16T htri.2.1 ⟨hp1, hp2⟩
    have hc := givesCl_any (maskL (L.getD (3 * i) [])) (maskL (L.getD (3 * i + 1) [])) (maskL (L.getD (3 * i + 2) [])) k (w.heap.size + 1 + 1) (w.heap.size + 1) W1 hm hk16 (cell_of_row W1 _ 0 _ _ _ (keep HP2.out.2 hW1)) (cell_of_row W1 _ 0 _ _ _ (keep HP2.out.1 hW1)) (row_lt (keep HP2.out.2 hW1)) (row_lt (keep HP2.out.1 hW1))
    rw [maskL_bit _ _ (fun z hz => (riseB_mem htri.2.1 z hz).1)] at hc
    rw [show hasB (L.getD (3 * i + 1) []) (k : Int) = decide ((k : Int) ∈ L.getD (3 * i + 1) []) by unfold hasB; simp]
    exact hc))
  clear g2 hqb
  go_wp2_with fail
  refine HC.out.mono ?_
  rintro e w4 ⟨v, mm, rfl, hown, hb⟩
  obtain ⟨av, bv, cv, hv, hbv, hob⟩ := own_ob hown
  subst hv
  have HY : Hid (OEnd (atOk p' c' L (k : Int)) (atR (fun i => hasB (L.getD (3 * i + 1) []) (k : Int)) p' c' L (k : Int)) w (.returned (.tuple #[.slice av mm cv, .bool true])) w4) := oend_yes HOK.out hob (by have := HB2.out.size; omega) (HB2.out.trans (hb.mono HB2.out.size))
  clear hown hb hob HC
  go_wp2_with fail
  go_ret2
  exact HY.out

set_option maxHeartbeats 400000 in
theorem givesI_any (p q : Int) (a : Option Addr) (n c : Nat) (L : List (List Int)) (w : World) (h : Lists w a (3 * n) L) (hs : sizeN n L ≤ 1048576) :
    Calls Try.prog 19 #[.agg #[.int .i64 p, .slice a n c], .int .i64 q] w fun e w' => OEnd (atOk p n L q) (atR (fun i => hasB (L.getD (3 * i + 1) []) q) p n L q) w e w' := by
  have hAl := below_al w (.cells #[.int .i64 p, .slice a n c] 26)
  have HT := hide (givesAt_any p q a n c L _ (h.below hAl) hs)
  have HB0 := hide hAl
  clear h hAl
  go_enter Try.func19, Try.ntmps19
  go_wp2_with fail
  refine HT.out.mono ?_
  rintro e w1 ⟨av, bv, nv, cv, rfl, hob, hbv, hb⟩
  have HE : Hid (OEnd (atOk p n L q) (atR (fun i => hasB (L.getD (3 * i + 1) []) q) p n L q) w (.returned (.tuple #[.slice av nv cv, .bool (atOk p n L q)])) w1) := ⟨av, bv, nv, cv, rfl, hob, by have := HB0.out.size; omega, HB0.out.trans (hb.mono HB0.out.size)⟩
  obtain ⟨g, hg⟩ : ∃ g, Hid (atOk p n L q = g) := ⟨_, rfl⟩
  have HE2 : Hid (OEnd (atOk p n L q) (atR (fun i => hasB (L.getD (3 * i + 1) []) q) p n L q) w (.returned (.tuple #[.slice av nv cv, .bool g])) w1) := by have := HE.out; rw [hg.out] at this; rw [hg.out]; exact this
  rw [hg.out]
  clear hob hb HT HE
  go_wp2_with fail
  go_ret2
  exact HE2.out

end Go.Proofs.Ytdhnhpjcoeglmaa


/- A net that is turned twice is as before, and what fired forth fires back: the mathematics. -/
namespace Go.Proofs.Ytdhnhpjcoeglmaa
open Go.RowKit

theorem turnL_at (n : Nat) (L : List (List Int)) (j : Nat) : (turnL n L).getD j [] = turnF L n j := congrFun (turnL_get n L) j

theorem resB_at {n : Nat} {L : List (List Int)} (h : resB n L = false) {i : Nat} (hi : i < n) : L.getD (3 * i + 2) [] = [] := by
  unfold resB at h
  rw [List.any_eq_false] at h
  have := h i (by simp; omega)
  simpa using this

theorem turn_parts {p : Int} {n : Nat} {L : List (List Int)} (h : turnOk p n L = true) : netOk p n L = true ∧ resB n L = false ∧ netOk p n (turnL n L) = true := by
  unfold turnOk at h
  simp only [Bool.and_eq_true, Bool.not_eq_true'] at h
  exact ⟨h.1.1, h.1.2, h.2⟩

theorem turn_turn {p : Int} {n : Nat} {L : List (List Int)} (h : turnOk p n L = true) (hl : L.length = 3 * n) : turnL n (turnL n L) = L := by
  obtain ⟨_, hr, _⟩ := turn_parts h
  apply List.ext_getElem (by rw [turnL_len]; omega)
  intro j h1 h2
  have hj : j < 3 * n := by rw [turnL_len] at h1; exact h1
  have e1 : (turnL n (turnL n L))[j] = (turnL n (turnL n L)).getD j [] := by simp [h1]
  have e2 : L[j] = L.getD j [] := by simp [h2]
  rw [e1, e2, turnL_at]
  unfold turnF
  rw [if_pos hj]
  by_cases j0 : j % 3 = 0
  · rw [if_pos j0, turnL_at]
    unfold turnF
    rw [if_pos (by omega), if_neg (by omega), if_pos (by omega), show j + 1 - 1 = j by omega]
  · rw [if_neg j0]
    by_cases j1 : j % 3 = 1
    · rw [if_pos j1, turnL_at]
      unfold turnF
      rw [if_pos (by omega), if_pos (by omega), show j - 1 + 1 = j by omega]
    · rw [if_neg j1]
      have := resB_at hr (show j / 3 < n by omega)
      rw [show 3 * (j / 3) + 2 = j by omega] at this
      exact this.symm

theorem turn_back {p : Int} {n : Nat} {L : List (List Int)} (h : turnOk p n L = true) (hl : L.length = 3 * n) : turnOk p n (turnL n L) = true := by
  obtain ⟨h1, hr, h3⟩ := turn_parts h
  have hres : resB n (turnL n L) = false := by
    unfold resB
    rw [List.any_eq_false]
    intro i hi
    have hi' : i < n := by simpa using hi
    rw [turnL_at]
    unfold turnF
    rw [if_pos (by omega), if_neg (by omega), if_neg (by omega)]
    decide
  unfold turnOk
  rw [h3, hres, turn_turn h hl, h1]
  rfl

structure BackF (p : Int) (n : Nat) (L : List (List Int)) (ys : List Int) (t : Int) : Prop where
  ok : fireOk p n (turnL n L) (fireR p n L ys t) t = true
  eq : fireR p n (turnL n L) (fireR p n L ys t) t = ys

theorem nil_upd (zs : List Int) : updL (fun _ => 0) [] zs = zs := rfl

theorem back_facts {p : Int} {n : Nat} {L : List (List Int)} {ys : List Int} {t : Int} (h : turnOk p n L = true) (hf : fireOk p n L ys t = true) : BackF p n L ys t := by
  obtain ⟨hn1, hr, hn3⟩ := turn_parts h
  have hres := res_none hf hr
  have e3 : fireR p n L ys t = firedL L ys t := by unfold fireR; rw [hf]; rfl
  have hf' := hf
  unfold fireOk at hf'
  simp only [Bool.and_eq_true] at hf'
  obtain ⟨⟨⟨⟨f1, f2⟩, f3⟩, f4⟩, f5⟩ := hf'
  have ht : t.toNat < n := by unfold inB at f3; simp only [Bool.and_eq_true, decide_eq_true_eq] at f3; omega
  have hri0 : riseB (inOf L t) 0 (p - 1) = true := (tri_riseT (triOkT hn1 ht)).1
  have hri1 : riseB (outOf L t) 0 (p - 1) = true := (tri_riseT (triOkT hn1 ht)).2.1
  have hlen : (ys.length : Int) = p := by
    unfold goodB at f2
    simp only [Bool.and_eq_true, decide_eq_true_eq] at f2
    exact f2.1.2
  have hy := good_parts f2
  have ei : inOf (turnL n L) t = outOf L t := by
    unfold inOf outOf
    rw [turnL_at]; unfold turnF
    rw [if_pos (by omega), if_pos (by omega)]
  have eo : outOf (turnL n L) t = inOf L t := by
    unfold inOf outOf
    rw [turnL_at]; unfold turnF
    rw [if_pos (by omega), if_neg (by omega), if_pos (by omega), show 3 * t.toNat + 1 - 1 = 3 * t.toNat by omega]
  have er : resOf (turnL n L) t = [] := by
    unfold resOf
    rw [turnL_at]; unfold turnF
    rw [if_pos (by omega), if_neg (by omega), if_neg (by omega)]
  have hx : firedL L ys t = updL (· + 1) (outOf L t) (updL (· - 1) (inOf L t) ys) := by unfold firedL fireL; rw [hres, nil_upd]
  have hl1 : (updL (· - 1) (inOf L t) ys).length = ys.length := updL_len _ _ _
  have a1 : ∀ i : Nat, (updL (· - 1) (inOf L t) ys).getD i 0 = if (i : Int) ∈ inOf L t then ys.getD i 0 - 1 else ys.getD i 0 := fun i => updL_at _ ys (p - 1) hri0 (by omega) i
  have a2 : ∀ i : Nat, (firedL L ys t).getD i 0 = if (i : Int) ∈ outOf L t then (updL (· - 1) (inOf L t) ys).getD i 0 + 1 else (updL (· - 1) (inOf L t) ys).getD i 0 := fun i => by
    rw [hx]; exact updL_at _ _ (p - 1) hri1 (by rw [hl1]; omega) i
  have hlx : (firedL L ys t).length = ys.length := by rw [hx, updL_len, updL_len]
  have hback : firedL (turnL n L) (firedL L ys t) t = ys := by
    unfold firedL at *
    unfold fireL
    rw [ei, eo, er, nil_upd]
    change updL (· + 1) (inOf L t) (updL (· - 1) (outOf L t) (fireL (inOf L t) (outOf L t) (resOf L t) ys)) = ys
    have hlz : (updL (· - 1) (outOf L t) (fireL (inOf L t) (outOf L t) (resOf L t) ys)).length = ys.length := by rw [updL_len]; exact hlx
    apply List.ext_getElem (by rw [updL_len]; exact hlz)
    intro i h1 h2
    have b1 := updL_at (· - 1) (fireL (inOf L t) (outOf L t) (resOf L t) ys) (p - 1) hri1 (by rw [hlx]; omega) i
    have b2 := updL_at (· + 1) (updL (· - 1) (outOf L t) (fireL (inOf L t) (outOf L t) (resOf L t) ys)) (p - 1) hri0 (by rw [hlz]; omega) i
    have c1 := a1 i
    have c2 := a2 i
    have g1 : ∀ (l : List Int) (hh : i < l.length), l[i] = l.getD i 0 := fun l hh => by simp [hh]
    rw [g1 _ h1, g1 _ h2]
    change (updL (· + 1) (inOf L t) (updL (· - 1) (outOf L t) (fireL (inOf L t) (outOf L t) (resOf L t) ys))).getD i 0 = _
    rw [b2, b1, c2, c1]
    by_cases m1 : (i : Int) ∈ inOf L t
    · by_cases m2 : (i : Int) ∈ outOf L t
      · simp only [if_pos m1, if_pos m2]; omega
      · simp only [if_pos m1, if_neg m2]; omega
    · by_cases m2 : (i : Int) ∈ outOf L t
      · simp only [if_neg m1, if_pos m2]; omega
      · simp only [if_neg m1, if_neg m2]
  have hcan : canB (inOf (turnL n L) t) (firedL L ys t) = true := by
    rw [ei]
    unfold canB at *
    rw [List.all_eq_true] at *
    intro q hq
    have hq0 := riseB_mem hri1 q hq
    have c1 := a1 q.toNat
    have c2 := a2 q.toNat
    rw [Int.toNat_of_nonneg hq0.1] at c1 c2
    rw [if_pos hq] at c2
    have hy0 : 0 ≤ ys.getD q.toNat 0 := (hy.1 q.toNat).1
    simp only [Bool.not_eq_true', decide_eq_false_iff_not]
    by_cases m1 : q ∈ inOf L t
    · have h4 := f4 q m1
      simp only [Bool.not_eq_true', decide_eq_false_iff_not] at h4
      rw [if_pos m1] at c1
      omega
    · rw [if_neg m1] at c1
      omega
  have hok : fireOk p n (turnL n L) (firedL L ys t) t = true := by
    unfold fireOk
    rw [hn3, f5, f3, hcan, hback, f2]
    rfl
  refine ⟨by rw [e3]; exact hok, ?_⟩
  rw [e3]
  unfold fireR
  rw [hok, if_pos rfl]
  exact hback
end Go.Proofs.Ytdhnhpjcoeglmaa


/- What the laws' own sameInts, big and numberOf answer. -/
namespace Go.Proofs.Ytdhnhpjcoeglmaa
open Go.RowKit
set_option maxRecDepth 10000

set_option maxHeartbeats 400000 in
theorem sameI_any (a b : Option Addr) (n m ca cb : Nat) (xs ys : List Int) (w : World) (ha : Row w a n xs) (hb : Row w b m ys) (hn : n ≤ 1048576) :
    Calls Try.prog 15 #[.slice a n ca, .slice b m cb] w fun e w' => e = .returned (.bool (sameB xs ys)) ∧ ∃ q, w' = w.drewN q := by
  by_cases hnm : n = m
  · subst hnm
    have hne : ((n : Int) != (n : Int)) = false := by simp
    go_enter Try.func15, Try.ntmps15
    go_wp2
    clear hne
    go_loopw [13] (fun i wr => ∃ k : Nat, k ≤ n ∧ i = .int .i64 k ∧ Upto xs ys k ∧ ∃ q, wr = w.drewN q) (fun i _ => n - (intOf i).toNat)
    case atStart => exact ⟨0, Nat.zero_le _, rfl, rfl, 0, rfl⟩
    case round =>
      obtain ⟨k, hk, rfl, hu, q, rfl⟩ := hrel
      by_cases hlt : k < n
      · obtain ⟨b1, o1, x, rfl, hl1, hc1, H1⟩ := ha.at hlt
        obtain ⟨b2, o2, y, rfl, hl2, hc2, H2⟩ := hb.at hlt
        have hi1 : ((k : Int)) < ((n : Int)) := by omega
        clear ha hb
        by_cases he : x = y
        · subst he
          have HU := hu.step H1 H2
          clear hu H1 H2
          go_wp2
          go_quiet (fail)
          go_wp2
          go_roundw
          case rel => exact ⟨k + 1, by omega, by go_num, HU, _, rfl⟩
          case measure => simp [intOf]; omega
        · have HS := sameB_ne H1 H2 he
          have hd : (x != y) = true := by simp [he]
          clear hu H1 H2 he
          go_wp2
          go_quiet (fail)
          go_wp2
          go_ret
          exact ⟨ret_bool HS.symm, _, drewN_two w _ _⟩
      · have hx := ha.1
        have hy := hb.1
        have HS := hu.done (by omega) (by omega)
        go_wp2
        go_ret
        exact ⟨ret_bool HS.symm, _, rfl⟩
  · have hx := ha.1
    have hy := hb.1
    have HS := sameB_len (show xs.length ≠ ys.length by omega)
    have hne : ((n : Int) != (m : Int)) = true := by simp; omega
    clear ha hb hx hy
    go_enter Try.func15, Try.ntmps15
    go_wp2
    go_ret
    exact ⟨ret_bool HS.symm, 0, rfl⟩


def BigEnd (n m : Nat) (w : World) (e : Ending) (w' : World) : Prop := ∃ r : Bool, e = .returned (.bool r) ∧ Hid (r = false → n ≤ 1048576 ∧ m ≤ 1048576) ∧ w' = w

set_option maxHeartbeats 400000 in
theorem big_any (a b : Option Addr) (n m ca cb : Nat) (w : World) (hn : n ≤ 9223372036854775807) (hm : m ≤ 9223372036854775807) :
    Calls Try.prog 8 #[.slice a n ca, .slice b m cb] w fun e w' => BigEnd n m w e w' := by
  by_cases h1 : 1048576 < n
  · go_enter Try.func8, Try.ntmps8
    go_wp2
    go_ret
    exact ⟨true, rfl, fun h => by simp at h, rfl⟩
  · have h1' : (n : Int) ≤ 1048576 := by omega
    by_cases h2 : (1048576 : Int) - (n : Int) < (m : Int)
    · go_enter Try.func8, Try.ntmps8
      go_wp2
      go_ret
      exact ⟨true, rfl, fun h => by simp at h, rfl⟩
    · go_enter Try.func8, Try.ntmps8
      go_wp2
      go_ret
      exact ⟨_, rfl, fun _ => by omega, rfl⟩

/-- Some slices read as some lists. -/
def Rs (v : World) (l : List (Option Addr × Nat × List Int)) : Prop := ∀ t ∈ l, Row v t.1 t.2.1 t.2.2

theorem Rs.nil (v : World) : Rs v [] := by intro t ht; simp at ht
theorem Rs.cons {v : World} {a : Option Addr} {n : Nat} {xs : List Int} {l : List (Option Addr × Nat × List Int)} (h : Row v a n xs) (hl : Rs v l) : Rs v ((a, n, xs) :: l) := by
  intro t ht
  rcases List.mem_cons.mp ht with rfl | ht
  · exact h
  · exact hl t ht
theorem Rs.below {v v' : World} {l : List (Option Addr × Nat × List Int)} (h : Rs v l) (hb : Below v.heap.size v v') : Rs v' l := fun t ht => (h t ht).below hb
theorem Rs.at {v : World} {l : List (Option Addr × Nat × List Int)} (h : Rs v l) (a : Option Addr) (n : Nat) (xs : List Int) (hm : (a, n, xs) ∈ l) : Row v a n xs := h _ hm


/-- How numberOf ends. -/
def NumEnd (w : World) (e : Ending) (w' : World) : Prop := ∃ z : Nat, e = .returned (.int .i64 (z : Int)) ∧ z < 1000003 ∧ w' = w

set_option maxHeartbeats 400000 in
theorem number_any (a : Option Addr) (n c : Nat) (bs : List Int) (w : World) (h : RowB w a n bs) (hn : n ≤ 1048576) :
    Calls Try.prog 13 #[.slice a n c] w fun e w' => NumEnd w e w' := by
  have HR := hide h
  clear h
  go_enter Try.func13, Try.ntmps13
  go_wp2_with fail
  go_loop [3, 8] (fun m i => ∃ k z : Nat, k ≤ n ∧ i = .int .i64 k ∧ m = .int .i64 (z : Int) ∧ z < 1000003) (fun _ i => n - (intOf i).toNat)
  case atStart => exact ⟨0, 0, Nat.zero_le _, rfl, rfl, by omega⟩
  case round =>
    obtain ⟨k, z, hk, rfl, rfl, hz⟩ := hrel
    by_cases hlt : k < n
    · have hi1 : (k : Int) < (n : Int) := by omega
      rcases HR.out.2.2 with h0 | ⟨b, off, rfl, hl, hc⟩
      · omega
      have hck := hc k hlt
      have hx := HR.out.2.1 k
      generalize bs.getD k 0 = x at hck hx
      clear hc HR
      have hz1 : (0 : Int) ≤ (z : Int) ∧ (z : Int) < 1000003 := by omega
      go_wp2_with fail
      go_round
      case rel => exact ⟨k + 1, ((31 * (z : Int) + x) % 1000003).toNat, by omega, by go_num, by have := Int.emod_nonneg (31 * (z : Int) + x) (show (1000003 : Int) ≠ 0 by omega); congr 1; omega, by have := Int.emod_lt_of_pos (31 * (z : Int) + x) (show (0 : Int) < 1000003 by omega); omega⟩
      case measure => simp [intOf]; omega
    · go_wp2_with fail
      go_ret
      exact ⟨z, rfl, hz, rfl⟩
end Go.Proofs.Ytdhnhpjcoeglmaa
