/- Contracts that the proof stands on, one behind the other. -/
import Derived.Test.YtajcmamapmeglaaP5
import Derived.OwnWalk
import Derived.Deep.RegionHeld3
import Derived.Deep.MidRow
import Derived.Deep.Cut
/- smallSets of the program: the sets for which keeps tells true, and that have no earlier one within them. -/
namespace Go.Proofs.Ytajcmamapmeglaa
open Go.RowKit
set_option maxRecDepth 10000

/-- The numbers from 1 up to k for which f tells true, and that have no earlier one within them. -/
def smallN (f : Nat → Bool) : Nat → List Nat
  | 0 => []
  | k + 1 => if f (k + 1) && !(smallN f k).any (fun r => decide (r &&& (k + 1) = r)) then smallN f k ++ [k + 1] else smallN f k

theorem smallN_yes {f : Nat → Bool} {k : Nat} (h1 : f (k + 1) = true) (h2 : (smallN f k).any (fun r => decide (r &&& (k + 1) = r)) = false) : smallN f (k + 1) = smallN f k ++ [k + 1] := by
  show (if _ then _ else _) = _
  rw [h1, h2]; rfl
theorem smallN_no1 {f : Nat → Bool} {k : Nat} (h1 : f (k + 1) = false) : smallN f (k + 1) = smallN f k := by
  show (if _ then _ else _) = _
  rw [h1]; rfl
theorem smallN_no2 {f : Nat → Bool} {k : Nat} (h2 : (smallN f k).any (fun r => decide (r &&& (k + 1) = r)) = true) : smallN f (k + 1) = smallN f k := by
  show (if _ then _ else _) = _
  rw [h2]; simp

theorem smallN_mem {f : Nat → Bool} {k s : Nat} (h : s ∈ smallN f k) : 1 ≤ s ∧ s ≤ k := by
  induction k with
  | zero => simp [smallN] at h
  | succ k ih =>
    have h' : s ∈ smallN f k ∨ s = k + 1 := by
      unfold smallN at h
      split at h
      · simpa using h
      · exact .inl h
    rcases h' with h' | rfl
    · have := ih h'; omega
    · omega

theorem smallN_len (f : Nat → Bool) (k : Nat) : (smallN f k).length ≤ k := by
  induction k with
  | zero => simp [smallN]
  | succ k ih =>
    unfold smallN
    split
    · simp; omega
    · omega

def encS (l : List Nat) : List Value := l.map fun (s : Nat) => Value.int .u16 (s : Int)

theorem encS_len (l : List Nat) : (encS l).length = l.length := by simp [encS]

theorem own_slice {w : World} {B n : Nat} {v : Value} {T : TypeId} {xs : List Value} (h : w.ownsRow B T 1 v n xs) : ∃ a c, v = .slice a n c := by
  rcases h.2 with ⟨rfl, rfl⟩ | ⟨g, cap, cur, rfl, _⟩
  · exact ⟨_, _, rfl⟩
  · exact ⟨_, _, rfl⟩

theorem setSet_at {w : World} {B n : Nat} {v : Value} {l : List Nat} (h : w.ownsRow B 63 1 v n (encS l)) {k : Nat} (hk : k < n) : ∃ g c, v = .slice (some ⟨g, 0, none⟩) n c ∧ g < w.heap.size ∧ w.cell? ⟨g, k, none⟩ = some (.int .u16 ((l.getD k 0 : Nat) : Int)) ∧ l[k]? = some (l.getD k 0) := by
  have hl : l.length = n := by have := h.1; rw [encS_len] at this; omega
  rcases h.2 with ⟨rfl, rfl⟩ | ⟨g, cap, cur, rfl, hb, hh, hnc, _, hsz, ht⟩
  · omega
  · refine ⟨g, cap, rfl, (Array.getElem?_eq_some_iff.mp hh).1, ?_, ?_⟩
    · rw [cell_of_row w g k cur _ _ hh]
      have e : (cur.toList.take (n * 1))[k]? = (encS l)[k]? := by rw [ht]
      rw [List.getElem?_take_of_lt (by omega), Array.getElem?_toList] at e
      rw [e]
      simp [encS, List.getElem?_eq_getElem (show k < l.length by omega), List.getD_eq_getElem?_getD]
    · rw [List.getD_eq_getElem?_getD, List.getElem?_eq_getElem (by omega)]; rfl

theorem andNotK_nat (a b : Nat) : bits .andNot .u16 (a : Int) (b : Int) = (((BitVec.ofNat 16 a) &&& ~~~(BitVec.ofNat 16 b)).toNat : Int) := by
  simp only [bits, BitVec.ofInt_natCast]
  refine wraps_u16 _ (Int.natCast_nonneg _) ?_
  have := ((BitVec.ofNat 16 a) &&& ~~~(BitVec.ofNat 16 b)).isLt
  exact_mod_cast this

theorem andNotK {a b : Nat} (ha : a < 2 ^ 16) : (bits .andNot .u16 (a : Int) (b : Int) == 0) = decide (a &&& b = a) := by
  by_cases h : a &&& b = a
  · rw [decide_eq_true h, andNotK_nat a b]
    have : (BitVec.ofNat 16 a) &&& ~~~(BitVec.ofNat 16 b) = 0#16 := by
      apply BitVec.eq_of_getLsbD_eq
      intro i hi
      have hbit : (a &&& b).testBit i = a.testBit i := by rw [h]
      rw [Nat.testBit_and] at hbit
      rw [BitVec.getLsbD_and, BitVec.getLsbD_not, BitVec.getLsbD_ofNat, BitVec.getLsbD_ofNat]
      cases h1 : a.testBit i
      · simp
      · rw [h1] at hbit
        have : b.testBit i = true := by simpa using hbit
        simp [this, hi]
    rw [this]; rfl
  · rw [decide_eq_false h, andNotK_nat a b]
    apply Bool.eq_false_iff.mpr
    intro e
    have e := eq_of_beq e
    apply h
    have e' : (BitVec.ofNat 16 a) &&& ~~~(BitVec.ofNat 16 b) = 0#16 := by
      apply BitVec.eq_of_toNat_eq
      simpa using (by exact_mod_cast e : ((BitVec.ofNat 16 a) &&& ~~~(BitVec.ofNat 16 b)).toNat = 0)
    apply Nat.eq_of_testBit_eq
    intro i
    rw [Nat.testBit_and]
    by_cases hi : i < 16
    · have := congrArg (fun x => BitVec.getLsbD x i) e'
      rw [BitVec.getLsbD_and, BitVec.getLsbD_not, BitVec.getLsbD_ofNat, BitVec.getLsbD_ofNat] at this
      cases h1 : a.testBit i
      · rfl
      · rw [h1] at this
        cases h2 : b.testBit i
        · rw [h2] at this; simp [hi] at this
        · rfl
    · rw [Nat.testBit_lt_two_pow (Nat.lt_of_lt_of_le ha (Nat.pow_le_pow_right (by decide) (by omega)))]; rfl

set_option maxHeartbeats 400000 in
theorem holds_any (t s : Nat) (w : World) (hs : s < 2 ^ 16) :
    Calls Try.prog 149 #[.int .u16 (t : Int), .int .u16 (s : Int)] w fun e w' => e = .returned (.bool (decide (s &&& t = s))) ∧ w' = w := by
  have HB := hide (andNotK (b := t) hs)
  go_enter Try.func149, Try.ntmps149
  go_wp2_with fail
  go_ret
  exact ⟨ret_bool HB.out, rfl⟩

def SuEnd (g : Bool) (w : World) (e : Ending) (w' : World) : Prop := ∃ z : Int, e = .returned (.int .i64 z) ∧ Hid (decide (0 ≤ z) = g) ∧ w' = w

def subA (l : List Nat) (t : Nat) : Bool := l.any fun r => decide (r &&& t = r)

theorem subA_take {l : List Nat} {t k s : Nat} (h : subA (l.take k) t = false) (hx : l[k]? = some s) (hn : decide (s &&& t = s) = false) : subA (l.take (k + 1)) t = false := by
  unfold subA at *
  rw [List.take_add_one, hx, List.any_append, h]
  simp [of_decide_eq_false hn]

theorem subA_yes {l : List Nat} {t k s : Nat} (hx : l[k]? = some s) (hn : decide (s &&& t = s) = true) : subA l t = true := by
  unfold subA
  rw [List.any_eq_true]
  exact ⟨s, List.mem_of_getElem? hx, hn⟩

set_option maxHeartbeats 1000000 in
theorem subIx_any (B n c t : Nat) (a : Option Addr) (l : List Nat) (w : World) (h : w.ownsRow B 63 1 (.slice a n c) n (encS l)) (hn : n ≤ 1024) (hl : ∀ s ∈ l, s < 2 ^ 16) :
    Calls Try.prog 141 #[.slice a n c, .func (.func 149) #[.int .u16 (t : Int)] #[]] w fun e w' => SuEnd (subA l t) w e w' := by
  have HO := hide h
  have HL := hide hl
  have hlen : l.length = n := by have := h.1; rw [encS_len] at this; omega
  clear h hl
  go_enter Try.func141, Try.ntmps141
  go_wp2_with fail
  go_loop [8] (fun i => ∃ k : Nat, k ≤ n ∧ i = .int .i64 k ∧ Hid (subA (l.take k) t = false)) (fun i => n - (intOf i).toNat)
  case atStart => exact ⟨0, Nat.zero_le _, rfl, rfl⟩
  case round =>
    obtain ⟨k, hk, rfl, hu⟩ := hrel
    by_cases hkn : k < n
    rotate_left
    · have hk' : n = k := by omega
      subst hk'
      have HE : Hid (SuEnd (subA l t) w (.returned (.int .i64 (-1))) w) := ⟨-1, rfl, by have := hu.out; rw [List.take_of_length_le (by omega)] at this; rw [this]; rfl, rfl⟩
      go_wp2_with fail
      go_ret
      exact HE.out
    obtain ⟨g, c', ev, hgl, hcg, hlk⟩ := setSet_at HO.out hkn
    injection ev with e1 _ e3
    subst e1 e3
    obtain ⟨s, hs⟩ : ∃ s, Hid (l.getD k 0 = s) := ⟨_, rfl⟩
    rw [hs.out] at hcg hlk
    have hsl := HL.out s (List.mem_of_getElem? hlk)
    have HH := hide (holds_any t s w hsl)
    have HLK := hide hlk
    clear hlk hs
    cases hd : decide (s &&& t = s)
    · have HU := hide (subA_take hu.out HLK.out hd)
      rw [hd] at HH
      clear hd hu HLK
      go_wp2_with fail
      refine HH.out.mono ?_
      rintro e w1 ⟨rfl, rfl⟩
      clear HH hcg hgl
      go_wp2_with fail
      go_round
      case rel => exact ⟨k + 1, by omega, by go_num, HU⟩
      case measure => simp [intOf]; omega
    · have HE : Hid (SuEnd (subA l t) w (.returned (.int .i64 (k : Int))) w) := ⟨k, rfl, by rw [subA_yes HLK.out hd]; simp [Hid], rfl⟩
      rw [hd] at HH
      clear hd hu HLK
      go_wp2_with fail
      refine HH.out.mono ?_
      rintro e w1 ⟨rfl, rfl⟩
      clear HH hcg hgl
      go_wp2_with fail
      go_ret
      exact HE.out

set_option maxHeartbeats 400000 in
theorem subC_any (B n c t : Nat) (a : Option Addr) (l : List Nat) (w : World) (h : w.ownsRow B 63 1 (.slice a n c) n (encS l)) (hn : n ≤ 1024) (hl : ∀ s ∈ l, s < 2 ^ 16) :
    Calls Try.prog 102 #[.slice a n c, .func (.func 149) #[.int .u16 (t : Int)] #[]] w fun e w' => e = .returned (.bool (subA l t)) ∧ w' = w := by
  have HI := hide (subIx_any B n c t a l w h hn hl)
  clear h hl
  go_enter Try.func102, Try.ntmps102
  go_wp2_with fail
  refine HI.out.mono ?_
  rintro e w1 ⟨z, rfl, hz, rfl⟩
  clear HI
  go_wp2_with fail
  go_ret
  exact ⟨ret_bool hz.out, rfl⟩

theorem Try.info63 : (Try.prog.info? 63).map (fun i => (i.zero, i.size, i.bytes)) = some (some (.int .u16 0), 1, 2) := by kernel_rfl
theorem Try.und90 : Try.prog.underlying 90 = some (.slice 63) := by kernel_rfl

theorem own_belowK {B : Nat} {w w' : World} {v : Value} {n : Nat} {T : TypeId} {l : List Value} (hown : w.ownsRow B T 1 v n l) (hg : w.grownBy w' v.ownBlock) {a : World} {C : Nat} (h : Below C a w) (hC : C ≤ w.heap.size) (hB : C ≤ B) : Below C a w' := by
  refine h.grown hg hC fun k hk => ?_
  rcases hown.2 with ⟨rfl, _⟩ | ⟨g, cap, cur, rfl, hb, _⟩
  · simp [Value.ownBlock] at hk
  · simp [Value.ownBlock] at hk; omega

theorem own_growK {B : Nat} {w w' : World} {v : Value} {n : Nat} {T : TypeId} {l : List Value} (hown : w.ownsRow B T 1 v n l) (hb : Below w.heap.size w w') : w'.ownsRow B T 1 v n l := by
  refine ⟨hown.1, ?_⟩
  rcases hown.2 with h0 | ⟨g, cap, cur, e, h1, h2, h3⟩
  · exact .inl h0
  · exact .inr ⟨g, cap, cur, e, h1, (hb.block g (Array.getElem?_eq_some_iff.mp h2).1).trans h2, h3⟩

theorem one_cellK (w : World) (v : Value) (T : TypeId) : ∀ j u, ([v] : List Value)[j]? = some u → (w.alloc (.cells #[v] T)).cell? ((⟨w.heap.size, 0, none⟩ : Addr).add j) = some u := by
  intro j u hu
  match j, hu with
  | 0, hu =>
    simp at hu; subst hu
    rw [Addr.add_mid]
    exact cell_of_row _ w.heap.size 0 #[v] _ _ (heap_alloc_new _ _)
  | (q + 1), hu => simp at hu

theorem shl_pow {P : Nat} (h : P ≤ 10) : 2 ^ P ≤ 1024 := by
  have : 2 ^ P ≤ 2 ^ 10 := Nat.pow_le_pow_right (by decide) h
  simpa using this

/-- How smallSets ends. -/
def SsEnd (l : List Nat) (w : World) (e : Ending) (w' : World) : Prop :=
  ∃ v m, e = .returned v ∧ w'.ownsRow w.heap.size 63 1 v m (encS l) ∧ Below w.heap.size w w'

theorem all_wrapK {p : Nat} (h1 : 1 ≤ p) (h2 : p ≤ 16) : IntKind.u16.wrap (IntKind.u16.wrap (2 ^ p) - 1) = ((2 ^ p - 1 : Nat) : Int) := by
  have : p = 1 ∨ p = 2 ∨ p = 3 ∨ p = 4 ∨ p = 5 ∨ p = 6 ∨ p = 7 ∨ p = 8 ∨ p = 9 ∨ p = 10 ∨ p = 11 ∨ p = 12 ∨ p = 13 ∨ p = 14 ∨ p = 15 ∨ p = 16 := by omega
  rcases this with rfl | rfl | rfl | rfl | rfl | rfl | rfl | rfl | rfl | rfl | rfl | rfl | rfl | rfl | rfl | rfl <;> rfl

theorem ret_u16K {a b : Int} (h : a = b) : Ending.returned (.int .u16 a) = .returned (.int .u16 b) := by rw [h]

set_option maxHeartbeats 1000000 in
theorem allK_any (p : Nat) (a : Option Addr) (m c : Nat) (w : World) (h1 : 1 ≤ p) (h2 : p ≤ 16) :
    Calls Try.prog 83 #[.agg #[.int .i64 (p : Int), .slice a m c]] w fun e w' => e = .returned (.int .u16 ((2 ^ p - 1 : Nat) : Int)) ∧ Below w.heap.size w w' := by
  have HB := hide (all_wrapK h1 h2)
  go_enter Try.func83, Try.ntmps83
  go_wp2_with fail
  go_ret
  exact ⟨ret_u16K HB.out, below_al _ _⟩

theorem own_baseK {w : World} {B B' n k : Nat} {T : TypeId} {v : Value} {xs : List Value} (h : w.ownsRow B T k v n xs) (hb : B' ≤ B) : w.ownsRow B' T k v n xs := by
  refine ⟨h.1, ?_⟩
  rcases h.2 with h0 | ⟨g, cap, cur, e, h1, h2⟩
  · exact .inl h0
  · exact .inr ⟨g, cap, cur, e, Nat.le_trans hb h1, h2⟩

/-- A function that is handed in is one with a body. -/
def Enters (F : FuncId) : Prop := ((Try.prog.funcs[F]?).map fun fn => (fn.name == "runtime.NumGoroutine" || fn.body.isNone)) = some false

theorem callF_enter {F : FuncId} (h : Enters F) (args : Array Value) (w : World) : Sem.run Try.prog (callFunc F args) w = .ok (.enter F args) w := by
  obtain ⟨fn, hf, hb⟩ := Option.map_eq_some_iff.1 h
  rw [Bool.or_eq_false_iff] at hb
  have h1 : ¬ fn.name = "runtime.NumGoroutine" := fun e => by rw [e] at hb; simp at hb
  have h2 : ¬ fn.body = none := fun e => by rw [e] at hb; simp at hb
  simp [callFunc, go_sem, hf, h1, h2]

/-- What a function F that is handed in tells of a net and a set: f of the set. -/
def TellsOf (F : FuncId) (f : Nat → Bool) (v : Value) (w : World) : Prop := ∀ W, Below w.heap.size w W → ∀ s : Nat, s < 1024 → Calls Try.prog F #[v, .int .u16 (s : Int)] W fun e w' => e = .returned (.bool (f s)) ∧ Below W.heap.size W w'

theorem TellsOf.grow {F : FuncId} {f : Nat → Bool} {v : Value} {w w' : World} (h : TellsOf F f v w) (hb : Below w.heap.size w w') : TellsOf F f v w' :=
  fun W hw s hs => h W (hb.trans (hw.mono hb.size)) s hs

set_option maxHeartbeats 4000000 in
theorem smallSets_any (F : FuncId) (f : Nat → Bool) (P n c : Nat) (a : Option Addr) (w : World) (hP1 : 1 ≤ P) (hP : P ≤ 10) (hF : Enters F) (hf : TellsOf F f (.agg #[.int .i64 (P : Int), .slice a n c]) w) :
    Calls Try.prog 127 #[.agg #[.int .i64 (P : Int), .slice a n c], .func (.func F) #[] #[]] w fun e w' => SsEnd (smallN f (2 ^ P - 1)) w e w' := by
  obtain ⟨i0, hi, hz0, hz1, hz2⟩ := info_split2 Try.info63
  obtain ⟨M, hM⟩ : ∃ M : Nat, Hid ((2 : Nat) ^ P = M) := ⟨_, rfl⟩
  have hM1 : M ≤ 1024 := by rw [← hM.out]; exact shl_pow hP
  have hM0 : 1 ≤ M := by rw [← hM.out]; exact Nat.one_le_two_pow
  have hMi : ((2 : Int) ^ P) = (M : Int) := by rw [← hM.out]; simp
  have hA := below_al w (.cells #[.int .i64 (P : Int), .slice a n c] 59)
  have HV := hide (heap_alloc_new w (.cells #[.int .i64 (P : Int), .slice a n c] 59))
  have HAL := hide (allK_any P a n c (w.alloc (.cells #[.int .i64 (P : Int), .slice a n c] 59)) hP1 (by omega))
  have HB0 := hide hA
  have HF := hide (hf.grow hA)
  rw [hM.out] at HAL ⊢
  have hP0 : (0 : Int) ≤ (P : Int) := by omega
  have hM1i : ((M - 1 : Nat) : Int) ≤ 1023 := by omega
  have hM0i : (0 : Int) ≤ ((M - 1 : Nat) : Int) := by omega
  clear hf hA
  go_enter Try.func127, Try.ntmps127
  go_wp2_with fail
  refine HAL.out.mono ?_
  rintro e v1 ⟨rfl, hb⟩
  have HB1 := hide (HB0.out.trans (hb.mono HB0.out.size))
  have HV1 := hide (keep HV.out hb)
  have HF1 := hide (HF.out.grow hb)
  clear hb HAL HB0 HV HF
  go_wp2_with fail
  go_loopw [5, 11] (fun o i wr => ∃ k m : Nat, k ≤ M - 1 ∧ i = .int .i64 k ∧ Hid (m = (smallN f k).length) ∧ Hid (wr.ownsRow v1.heap.size 63 1 o m (encS (smallN f k))) ∧ Hid (Below v1.heap.size v1 wr)) (fun _ i _ => M - (intOf i).toNat)
  case atStart => exact ⟨0, 0, Nat.zero_le _, rfl, rfl, World.ownsRow_nil _ _ _ _, Below.refl _ _⟩
  case round =>
    obtain ⟨k, m, hk, rfl, hmk, hown, hbw⟩ := hrel
    by_cases hlt : k < M - 1
    rotate_left
    · have hk' : k = M - 1 := by omega
      have HE : Hid (SsEnd (smallN f (M - 1)) w (.returned u5) wr) := ⟨_, m, rfl, by rw [← hk']; exact own_baseK hown.out HB1.out.size, HB1.out.trans (hbw.out.mono HB1.out.size)⟩
      clear hk' hown hmk hbw
      go_wp2_with fail
      go_ret
      exact HE.out
    have hml : m ≤ k := by rw [hmk.out]; exact smallN_len _ _
    obtain ⟨a5, c5, rfl⟩ := own_slice hown.out
    have hk1 : k + 1 < 1024 := by omega
    have HK := hide (HF1.out wr hbw.out (k + 1) hk1)
    obtain ⟨hc0, hc1⟩ := cells2 (keep HV1.out hbw.out)
    have hlt0 := row_lt (keep HV1.out hbw.out)
    have HS := hide (subC_any v1.heap.size m c5 (k + 1) a5 (smallN f k) wr hown.out (by omega) (fun s hs => by have := smallN_mem hs; omega))
    have hki : ((k : Int) + 1) = ((k + 1 : Nat) : Int) := by omega
    rw [← hki] at HK HS
    have HKI := hide hki
    clear hki
    have hk2 : (k : Int) + 1 < 1024 := by omega
    have hk3 : (0 : Int) ≤ (k : Int) + 1 := by omega
    cases hsub : subA (smallN f k) (k + 1)
    case true =>
      have HN := hide (smallN_no2 (f := f) hsub)
      rw [hsub] at HS
      clear hsub
      go_wp2_with fail
      refine HS.out.mono ?_
      rintro e w1 ⟨rfl, rfl⟩
      clear HS HK hc0 hc1 hlt0
      go_wp2_with fail
      go_roundw
      case rel => exact ⟨k + 1, m, by omega, by go_num, by show _ = _; rw [HN.out]; exact hmk.out, by rw [HN.out]; exact hown, hbw⟩
      case measure => simp [intOf]; omega
    have hsub' : (smallN f k).any (fun r => decide (r &&& (k + 1) = r)) = false := hsub
    rw [hsub] at HS
    clear hsub
    cases hkp : f (k + 1)
    case false =>
      have HN := hide (smallN_no1 (f := f) (k := k) hkp)
      rw [hkp] at HK
      clear hkp hsub'
      go_wp2_with fail
      refine HS.out.mono ?_
      rintro e w1 ⟨rfl, rfl⟩
      go_wp2_with fail
      rw [callF_enter hF, Oper.upon_enter]
      refine HK.out.mono ?_
      rintro e w2 ⟨rfl, hb⟩
      have HB2 := hide (hbw.out.trans (hb.mono hbw.out.size))
      have HO2 := hide (own_growK hown.out hb)
      clear HS HK hb hbw hown hc0 hc1 hlt0
      go_wp2_with fail
      go_roundw
      case rel => exact ⟨k + 1, m, by omega, by go_num, by show _ = _; rw [HN.out]; exact hmk.out, by rw [HN.out]; exact HO2, HB2⟩
      case measure => simp [intOf]; omega
    have HN := hide (smallN_yes (f := f) (k := k) hkp hsub')
    rw [hkp] at HK
    clear hkp hsub'
    go_wp2_with fail
    refine HS.out.mono ?_
    rintro e w1 ⟨rfl, rfl⟩
    go_wp2_with fail
    rw [callF_enter hF, Oper.upon_enter]
    refine HK.out.mono ?_
    rintro e w2 ⟨rfl, hb⟩
    have HB2 := hide (hbw.out.trans (hb.mono hbw.out.size))
    have HO2 := hide (own_growK hown.out hb)
    clear HS HK hb hbw hown hc0 hc1 hlt0
    have hA2 := below_al w2 (.cells #[.int .u16 ((k : Int) + 1)] 63)
    have HO3 := hide (HO2.out.alloc (.cells #[.int .u16 ((k : Int) + 1)] 63))
    have HB3 := hide (HB2.out.trans (hA2.mono HB2.out.size))
    have HCE : Hid (∀ j u, ([.int .u16 ((k : Int) + 1)] : List Value)[j]? = some u → (w2.alloc (.cells #[.int .u16 ((k : Int) + 1)] 63)).cell? ((⟨w2.heap.size, 0, none⟩ : Addr).add j) = some u) := one_cellK w2 _ _
    have H1c : Hid (∀ u ∈ ([.int .u16 ((k : Int) + 1)] : List Value), u.oneCell' = true) := fun u hu => by simp at hu; subst hu; rfl
    have HX := hide (show m + 1 ≤ maxLen by unfold maxLen; omega)
    have HY := hide (show (m + 1) * 2 ≤ 140737488355328 by omega)
    have HZ := hide HB3.out.size
    clear hA2 HO2 HB2
    go_wp2_with (refine wpList_append_own _ rfl (.tmp 28) (.tmp 30) 90 rfl v1.heap.size 63 i0 (.int .u16 0) 1 2 Try.und90 hi hz0 hz1 hz2 rfl (by decide) _ m _ rfl HO3.out ⟨_, 0, none⟩ 1 1 [.int .u16 ((k : Int) + 1)] rfl rfl HCE.out H1c.out HX.out HY.out HZ.out ?_; intro v' W' r1 r2 r3)
    have HR1 : Hid (W'.ownsRow v1.heap.size 63 1 v' (m + 1) (encS (smallN f (k + 1)))) := by
      show World.ownsRow _ _ _ _ _ _ _
      rw [HN.out, encS, List.map_append]
      simp only [List.map_cons, List.map_nil, ← HKI.out]
      exact r1
    have HB4 := hide (own_belowK HO3.out r2 HB3.out HB3.out.size (Nat.le_refl _))
    have HM2 : Hid (m + 1 = (smallN f (k + 1)).length) := by show _ = _; rw [HN.out, List.length_append, ← hmk.out]; rfl
    clear r1 r2 r3 HO3 HB3 HCE H1c HX HY HZ
    go_wp2_with fail
    go_roundw
    case rel => exact ⟨k + 1, m + 1, by omega, by go_num, HM2, HR1, HB4⟩
    case measure => simp [intOf]; omega
end Go.Proofs.Ytajcmamapmeglaa


/- Steps of a region that draws its order, by hand: a call, an operation that is not wanted. -/
namespace Go.Proofs.Ytajcmamapmeglaa
open Go.RowKit

theorem run_callw {P : Program} {o : Oper} {a : Act} {w : World} (f : FuncId) (fn : Func) (xs : Array Operand) (ts : Array TypeId) (hop : o.op = Op.call { callee := Callee.value (Operand.func f), args := xs, argTypes := ts })
    (hfn : P.funcs[f]? = some fn) (hnm : (fn.name == "runtime.NumGoroutine") = false) (hbd : fn.body.isNone = false) : (execOp a.eval o).run P w = .ok (.enter f (xs.map a.eval)) w := by
  have hnm' : ¬ fn.name = "runtime.NumGoroutine" := by simpa using hnm
  have hbd' : ¬ fn.body = none := by intro e; rw [e] at hbd; simp at hbd
  unfold execOp
  simp only [hop]
  simp [resolve, invoke, go_sem, Act.eval, callFunc, hfn, hnm', hbd']

/-- A call that is wanted as one step of a region that draws its order. -/
theorem step_callW {P : Program} {ops : Array Oper} {o : Oper} {a : Act} {w : World} {K : Act → World → Prop} {Q : Exit → Act → World → Prop} {E : Prop}
    (hw : Region.wanted o (yielded ops a.tmps) = true) (f : FuncId) (fn : Func) (xs : Array Operand) (ts : Array TypeId) (hop : o.op = Op.call { callee := Callee.value (Operand.func f), args := xs, argTypes := ts })
    (hfn : P.funcs[f]? = some fn) (hnm : (fn.name == "runtime.NumGoroutine") = false) (hbd : fn.body.isNone = false) (args : Array Value) (hargs : xs.map a.eval = args) (R : Ending → World → Prop) (hc : Calls P f args w R)
    (h : ∀ e w', R e w' → ∃ v, e = .returned v ∧ K (a.put o.dst v) w') :
    if Region.wanted o (yielded ops a.tmps) = true then Oper.wp P o a w K Q else E := by
  rw [if_pos hw]
  unfold Oper.wp
  rw [run_callw f fn xs ts hop hfn hnm hbd, hargs, Oper.upon_enter]
  refine hc.mono fun e w'' hh => ?_
  obtain ⟨v, rfl, hk⟩ := h e w'' hh
  exact hk

theorem mapw1 (g : Operand → Value) (x : Operand) (v : Value) (h : g x = v) : (#[x] : Array Operand).map g = #[v] := by simp [h]
theorem mapw2 (g : Operand → Value) (x y : Operand) (v u : Value) (h : g x = v) (h2 : g y = u) : (#[x, y] : Array Operand).map g = #[v, u] := by simp [h, h2]

section
variable {P : Program} {ops : Array Oper} {Q : Exit → Act → World → Prop} {md : Region.Mode} {S : World → Prop}

/-- What is not wanted is taken first. -/
theorem take_no {i : Nat} {oi : Oper} {fuel : Nat} {listed : Array Bool} {a : Act} {w : World} (d : Option Tmp) (hi : ops[i]? = some oi) (hd : oi.dst = d)
    (hs : Region.noSelect ops = true) (hf : Region.free md ops listed i = true) (hr : (Region.ready md ops listed).contains i = true)
    (hQ : ∀ c a w, Q (.panic c) (a.put d undef) w → Q (.panic c) a w) (hw : Region.wanted oi (yielded ops a.tmps) = false) (hS : S w)
    (h : wpAnyH P md ops Q S fuel (listed.setIfInBounds i true) (a.put d undef) w) : wpAnyH P md ops Q S (fuel + 1) listed a w := by
  subst hd
  exact wpAnyH_take hi hs hf hr hQ (.inr ⟨hw, rfl⟩) hS h

/-- What is wanted and yields its value wherever S holds is taken first. -/
theorem take_yes {i : Nat} {oi : Oper} {fuel : Nat} {listed : Array Bool} {a : Act} {w : World} (d : Option Tmp) (v : Value) (hi : ops[i]? = some oi) (hd : oi.dst = d)
    (hs : Region.noSelect ops = true) (hf : Region.free md ops listed i = true) (hr : (Region.ready md ops listed).contains i = true)
    (hQ : ∀ c a w, Q (.panic c) (a.put d v) w → Q (.panic c) a w) (hw : Region.wanted oi (yielded ops a.tmps) = true) (hy : ∀ w, S w → (execOp a.eval oi).run P w = .ok (.value v) w) (hS : S w)
    (h : wpAnyH P md ops Q S fuel (listed.setIfInBounds i true) (a.put d v) w) : wpAnyH P md ops Q S (fuel + 1) listed a w := by
  subst hd
  exact wpAnyH_take hi hs hf hr hQ (.inl ⟨hw, hy⟩) hS h

/-- A call that must come up next. -/
theorem call_next {i : Nat} {oi : Oper} {fuel : Nat} {listed : Array Bool} {a : Act} {w : World} (d : Option Tmp) (hi : ops[i]? = some oi) (hd : oi.dst = d) (hr : Region.ready md ops listed = [i])
    (hw : Region.wanted oi (yielded ops a.tmps) = true) (f : FuncId) (fn : Func) (xs : Array Operand) (ts : Array TypeId) (hop : oi.op = Op.call { callee := Callee.value (Operand.func f), args := xs, argTypes := ts })
    (hfn : P.funcs[f]? = some fn) (hnm : (fn.name == "runtime.NumGoroutine") = false) (hbd : fn.body.isNone = false) (args : Array Value) (hargs : xs.map a.eval = args) (R : Ending → World → Prop) (hc : Calls P f args w R)
    (h : ∀ e w', R e w' → ∃ v, e = .returned v ∧ S w' ∧ (S w' → wpAnyH P md ops Q S fuel (listed.setIfInBounds i true) (a.put d v) w')) : wpAnyH P md ops Q S (fuel + 1) listed a w := by
  subst hd
  refine wpAnyH_ready hr (by simp) (AllReadyH.cons hi (fun K hK => ?_) AllReadyH.nil)
  refine step_callW hw f fn xs ts hop hfn hnm hbd args hargs R hc ?_
  intro e w' hR
  obtain ⟨v, e1, h1, h2⟩ := h e w' hR
  exact ⟨v, e1, hK.out _ _ h1 h2⟩

/-- A store of a whole row that must come up next. -/
theorem store_next {i : Nat} {oi : Oper} {fuel : Nat} {listed : Array Bool} {a : Act} {w : World} (hi : ops[i]? = some oi) (hd : oi.dst = none) (hr : Region.ready md ops listed = [i])
    (hw : Region.wanted oi (yielded ops a.tmps) = true) (ty : TypeId) (x y : Operand) (hop : oi.op = .store ty x y)
    (g : Nat) (cells : Array Value) (hx : a.eval x = .pointer (some ⟨g, 0, none⟩)) (hy : a.eval y = .agg cells)
    (t : TypeId) (old : Array Value) (hg : w.heap[g]? = some (.cells old t (0, 0))) (hz : (P.info? ty).map (·.size) = some cells.size)
    (hold : old.size = cells.size) (h1 : cells.all (·.oneCell') = true)
    (hS : S (w.setRow g cells)) (h : S (w.setRow g cells) → wpAnyH P md ops Q S fuel (listed.setIfInBounds i true) a (w.setRow g cells)) : wpAnyH P md ops Q S (fuel + 1) listed a w := by
  refine wpAnyH_ready hr (by simp) (AllReadyH.cons hi (fun K hK => ?_) AllReadyH.nil)
  rw [if_pos hw]
  refine wp_store_row ty x y hop g cells hx hy t old hg hz hold h1 (hK.out _ _ ?_ ?_)
  · exact hS
  · rw [hd]; exact h

/-- A store of some cells in a row that must come up next. -/
theorem store_mid_next {i : Nat} {oi : Oper} {fuel : Nat} {listed : Array Bool} {a : Act} {w : World} (hi : ops[i]? = some oi) (hd : oi.dst = none) (hr : Region.ready md ops listed = [i])
    (hw : Region.wanted oi (yielded ops a.tmps) = true) (ty : TypeId) (x y : Operand) (hop : oi.op = .store ty x y)
    (b o : Nat) (cells : Array Value) (hx : a.eval x = .pointer (some ⟨b, o, none⟩)) (hy : a.eval y = .agg cells) (ht : w.there b o cells.size) (hz : (P.info? ty).map (·.size) = some cells.size)
    (h1 : cells.all (·.oneCell') = true)
    (hS : S (w.setCells b o cells.toList)) (h : S (w.setCells b o cells.toList) → wpAnyH P md ops Q S fuel (listed.setIfInBounds i true) a (w.setCells b o cells.toList)) : wpAnyH P md ops Q S (fuel + 1) listed a w := by
  refine wpAnyH_ready hr (by simp) (AllReadyH.cons hi (fun K hK => ?_) AllReadyH.nil)
  rw [if_pos hw]
  refine wp_store_mid ty x y hop b o cells hx hy ht hz h1 (hK.out _ _ ?_ ?_)
  · exact hS
  · rw [hd]; exact h
end

theorem mapw4 (g : Operand → Value) (x y z u : Operand) (a b c d : Value) (h : g x = a) (h2 : g y = b) (h3 : g z = c) (h4 : g u = d) : (#[x, y, z, u] : Array Operand).map g = #[a, b, c, d] := by simp [h, h2, h3, h4]

theorem setRow_sameW {w : World} {b : Nat} {C : Array Value} {t : TypeId} (hb : w.heap[b]? = some (.cells C t (0, 0))) (D : Array Value) : (w.setRow b D).heap[b]? = some (.cells D t (0, 0)) := by
  simp only [World.setRow, Array.getElem?_modify]
  rw [if_pos trivial, hb]
  rfl

theorem setRow_otherW (w : World) {b k : Nat} (h : k ≠ b) (D : Array Value) : (w.setRow b D).heap[k]? = w.heap[k]? := by
  simp only [World.setRow, Array.getElem?_modify]
  rw [if_neg (fun e => h e.symm)]
end Go.Proofs.Ytajcmamapmeglaa


/- Sets of places held against a net's steps: follows, isSiphon and isTrap of the program. -/
namespace Go.Proofs.Ytajcmamapmeglaa
open Go.RowKit
set_option maxRecDepth 10000

/-- The places on one side of a step: b behind it, else ahead of it. -/
def sideB (b : Bool) (s0 s1 : Nat) : Nat := if b then s1 else s0

/-- A step slips: it has a place of the set on its near side, and none on its far side. -/
def slipB (b : Bool) (s0 s1 st : Nat) : Bool := !decide (sideB b s0 s1 &&& st = 0) && decide (sideB (!b) s0 s1 &&& st = 0)

def slipAt (b : Bool) (st i : Nat) (L : List (List Int)) : Bool := slipB b (maskL (L.getD (3 * i) [])) (maskL (L.getD (3 * i + 1) [])) st

def slips (b : Bool) (st n : Nat) (L : List (List Int)) : Bool := (List.range n).any fun i => slipAt b st i L

theorem slips_yes {b : Bool} {st n k : Nat} {L : List (List Int)} (hk : k < n) (h : slipAt b st k L = true) : slips b st n L = true := by
  unfold slips
  rw [List.any_eq_true]
  exact ⟨k, by simpa using hk, h⟩

theorem slips_step {b : Bool} {st k : Nat} {L : List (List Int)} (h : slips b st k L = false) (he : slipAt b st k L = false) : slips b st (k + 1) L = false := by
  unfold slips at *
  rw [List.range_succ, List.any_append, h]
  simp only [List.any_cons, List.any_nil, Bool.or_false, he]

theorem sideB_lt {b : Bool} {s0 s1 : Nat} (h0 : s0 < 2 ^ 16) (h1 : s1 < 2 ^ 16) : sideB b s0 s1 < 2 ^ 16 := by unfold sideB; split <;> assumption

/-- What a function that is handed in tells of a step: one of its sides. -/
def SideOf (F : FuncId) (b : Bool) : Prop := ∀ (s0 s1 s2 : Nat) (W : World), Calls Try.prog F #[.agg #[.int .u16 (s0 : Int), .int .u16 (s1 : Int), .int .u16 (s2 : Int)]] W fun e W' => e = .returned (.int .u16 ((sideB b s0 s1 : Nat) : Int)) ∧ Below W.heap.size W W'

theorem behindA_any : SideOf 135 true := fun s0 s1 s2 w => by
  go_enter Try.func135, Try.ntmps135
  go_wp2_with fail
  go_ret
  exact ⟨rfl, below_al _ _⟩

theorem aheadA_any : SideOf 136 false := fun s0 s1 s2 w => by
  go_enter Try.func136, Try.ntmps136
  go_wp2_with fail
  go_ret
  exact ⟨rfl, below_al _ _⟩

theorem run_callv {P : Program} {o : Oper} {a : Act} {w : World} (t : Tmp) (f : FuncId) (fn : Func) (xs : Array Operand) (ts : Array TypeId) (hop : o.op = Op.call { callee := Callee.value (Operand.tmp t), args := xs, argTypes := ts })
    (ht : a.eval (.tmp t) = .func (.func f) #[] #[]) (hfn : P.funcs[f]? = some fn) (hnm : (fn.name == "runtime.NumGoroutine") = false) (hbd : fn.body.isNone = false) : (execOp a.eval o).run P w = .ok (.enter f (xs.map a.eval)) w := by
  have hnm' : ¬ fn.name = "runtime.NumGoroutine" := by simpa using hnm
  have hbd' : ¬ fn.body = none := by intro e; rw [e] at hbd; simp at hbd
  have ht' : a.tmps[t]?.getD undef = .func (.func f) #[] #[] := by simpa [Act.eval] using ht
  unfold execOp
  simp only [hop]
  simp [resolve, invoke, go_sem, ht', callFunc, hfn, hnm', hbd', Act.eval]

theorem exec_load_rowA {P : Program} {o : Oper} {a : Act} {w : World} (ty : TypeId) (x : Operand) (ho : o.op = .load ty x) (g : Nat) (hx : a.eval x = .pointer (some ⟨g, 0, none⟩)) (t : TypeId) (cs : Array Value) (fr : Nat × Nat) (d : TypeDesc) (hg : w.heap[g]? = some (.cells cs t fr))
    (hu : P.underlying ty = some d) (hd : (match d with | .struct _ | .array _ _ => true | _ => false) = true) (hi : (P.info? ty).map (·.size) = some cs.size) : (execOp a.eval o).run P w = .ok (.value (.agg cs)) w := by
  unfold execOp
  simp only [ho, hx, Instr.loadAt, Instr.sureAddr, Sem.run_bind, Sem.run_pure, Result.andThen_ok, run_loadVar_row w g t ty cs fr d hg hu hd hi]

section
variable {P : Program} {ops : Array Oper} {Q : Exit → Act → World → Prop} {md : Region.Mode} {S : World → Prop}
/-- A call of a function that lies in a slot, which must come up next. -/
theorem callv_next {i : Nat} {oi : Oper} {fuel : Nat} {listed : Array Bool} {a : Act} {w : World} (d : Option Tmp) (hi : ops[i]? = some oi) (hd : oi.dst = d) (hr : Region.ready md ops listed = [i])
    (hw : Region.wanted oi (yielded ops a.tmps) = true) (t : Tmp) (f : FuncId) (fn : Func) (xs : Array Operand) (ts : Array TypeId) (hop : oi.op = Op.call { callee := Callee.value (Operand.tmp t), args := xs, argTypes := ts })
    (ht : a.eval (.tmp t) = .func (.func f) #[] #[]) (hfn : P.funcs[f]? = some fn) (hnm : (fn.name == "runtime.NumGoroutine") = false) (hbd : fn.body.isNone = false) (args : Array Value) (hargs : xs.map a.eval = args) (R : Ending → World → Prop) (hc : Calls P f args w R)
    (h : ∀ e w', R e w' → ∃ v, e = .returned v ∧ S w' ∧ (S w' → wpAnyH P md ops Q S fuel (listed.setIfInBounds i true) (a.put d v) w')) : wpAnyH P md ops Q S (fuel + 1) listed a w := by
  subst hd
  refine wpAnyH_ready hr (by simp) (AllReadyH.cons hi (fun K hK => ?_) AllReadyH.nil)
  rw [if_pos hw]
  unfold Oper.wp
  rw [run_callv t f fn xs ts hop ht hfn hnm hbd, hargs, Oper.upon_enter]
  refine hc.mono fun e w'' hh => ?_
  obtain ⟨v, e1, h1, h2⟩ := h e w'' hh
  subst e1
  exact hK.out _ _ h1 h2
end

set_option maxHeartbeats 2000000 in
theorem slip1S_any (s0 s1 s2 st bn bs bf : Nat) (w : World) (h0 : s0 < 2 ^ 16) (h1 : s1 < 2 ^ 16) (hst : st < 2 ^ 16)
    (hn : w.heap[bn]? = some (.cells #[.func (.func 135) #[] #[]] 136 (0, 0)))
    (hs : w.heap[bs]? = some (.cells #[.int .u16 (st : Int)] 63 (0, 0)))
    (hf : w.heap[bf]? = some (.cells #[.func (.func 136) #[] #[]] 136 (0, 0))) :
    Calls Try.prog 151 #[.agg #[.int .u16 (s0 : Int), .int .u16 (s1 : Int), .int .u16 (s2 : Int)], .pointer (some ⟨bn, 0, none⟩), .pointer (some ⟨bs, 0, none⟩), .pointer (some ⟨bf, 0, none⟩)] w fun e w' => e = .returned (.bool (slipB true s0 s1 st)) ∧ Below w.heap.size w w' := by
  have hA := below_al w (.cells #[.int .u16 (s0 : Int), .int .u16 (s1 : Int), .int .u16 (s2 : Int)] 65)
  have HB0 := hide hA
  have HN := hide (keep hn hA)
  have HS := hide (keep hs hA)
  have HF := hide (keep hf hA)
  have HC := hide (heap_alloc_new w (.cells #[.int .u16 (s0 : Int), .int .u16 (s1 : Int), .int .u16 (s2 : Int)] 65))
  have a0 := and_u16 s1 st h1 hst
  have a1 := and_u16 s0 st h0 hst
  have HD : Hid (slipB true s0 s1 st = (!decide (s1 &&& st = 0) && decide (s0 &&& st = 0))) := rfl
  have HZ0 : (((((s1 &&& st : Nat) : Int)) != 0) = !decide (s1 &&& st = 0)) := by by_cases h : s1 &&& st = 0 <;> simp [h]
  have HZ1 : (((((s0 &&& st : Nat) : Int)) == 0) = decide (s0 &&& st = 0)) := by by_cases h : s0 &&& st = 0 <;> simp [h]
  generalize s1 &&& st = t0 at *
  generalize s0 &&& st = t1 at *
  clear hA hn hs hf
  go_enter Try.func151, Try.ntmps151
  go_upto_region 1 with fail
  generalize w.alloc (.cells #[.int .u16 (s0 : Int), .int .u16 (s1 : Int), .int .u16 (s2 : Int)] 65) = v at *
  obtain ⟨z, hz⟩ : ∃ z, Hid (w.heap.size = z) := ⟨_, rfl⟩
  rw [hz.out] at HC ⊢
  have HB1 := hide HB0.out.drew
  have hS1 : (fun W : World => W.heap[bn]? = some (.cells #[.func (.func 135) #[] #[]] 136 (0, 0)) ∧ W.heap[bs]? = some (.cells #[.int .u16 (st : Int)] 63 (0, 0)) ∧ W.heap[bf]? = some (.cells #[.func (.func 136) #[] #[]] 136 (0, 0)) ∧ W.heap[z]? = some (.cells #[.int .u16 (s0 : Int), .int .u16 (s1 : Int), .int .u16 (s2 : Int)] 65 (0, 0))) v.drew := ⟨HN.out, HS.out, HF.out, HC.out⟩
  refine wp_region_held_drew (S := fun W => W.heap[bn]? = some (.cells #[.func (.func 135) #[] #[]] 136 (0, 0)) ∧ W.heap[bs]? = some (.cells #[.int .u16 (st : Int)] 63 (0, 0)) ∧ W.heap[bf]? = some (.cells #[.func (.func 136) #[] #[]] 136 (0, 0)) ∧ W.heap[z]? = some (.cells #[.int .u16 (s0 : Int), .int .u16 (s1 : Int), .int .u16 (s2 : Int)] 65 (0, 0))) (by kernel_rfl) hS1 (fun hHeld => ?_)
  clear HB0 HN HS HF HC hHeld
  generalize v.drew = w1 at *
  refine take_yes (i := 0) (some 6) (.func (.func 135) #[] #[]) rfl rfl (by kernel_rfl) (by kernel_rfl) (by kernel_rfl) (fun _ _ _ h => h) (by rfl) ?_ (by assumption) ?_
  · intro W' hSw
    obtain ⟨hz0, hz1, hz2, hz3⟩ := hSw
    have hc := cell_of_row W' _ 0 _ _ _ hz0
    simp at hc
    go_simp
  simp only [Act.put, List.setIfInBounds_toArray, List.set_cons_zero, List.set_cons_succ]
  refine take_yes (i := 1) (some 7) (.agg #[.int .u16 (s0 : Int), .int .u16 (s1 : Int), .int .u16 (s2 : Int)]) rfl rfl (by kernel_rfl) (by kernel_rfl) (by kernel_rfl) (fun _ _ _ h => h) (by rfl) ?_ (by assumption) ?_
  · intro W' hSw
    obtain ⟨hz0, hz1, hz2, hz3⟩ := hSw
    exact exec_load_rowA 65 _ rfl _ rfl 65 _ _ _ hz3 Try.underlying65 rfl Try.size65
  simp only [Act.put, List.setIfInBounds_toArray, List.set_cons_zero, List.set_cons_succ]
  refine take_yes (i := 3) (some 9) (.int .u16 (st : Int)) rfl rfl (by kernel_rfl) (by kernel_rfl) (by kernel_rfl) (fun _ _ _ h => h) (by rfl) ?_ (by assumption) ?_
  · intro W' hSw
    obtain ⟨hz0, hz1, hz2, hz3⟩ := hSw
    have hc := cell_of_row W' _ 0 _ _ _ hz1
    simp at hc
    go_simp
  simp only [Act.put, List.setIfInBounds_toArray, List.set_cons_zero, List.set_cons_succ]
  refine callv_next (i := 2) (some 8) rfl rfl (by kernel_rfl) (by rfl) 6 135 _ _ _ rfl rfl Try.func135 (by decide) rfl #[.agg #[.int .u16 (s0 : Int), .int .u16 (s1 : Int), .int .u16 (s2 : Int)]] (mapw1 _ _ _ rfl) _ (behindA_any s0 s1 s2 w1) ?_
  rintro e w2 ⟨rfl, hb2⟩
  have hA2 := hb2
  have HB2 := hide (HB1.out.trans (hb2.mono HB1.out.size))
  have hS2 : (fun W : World => W.heap[bn]? = some (.cells #[.func (.func 135) #[] #[]] 136 (0, 0)) ∧ W.heap[bs]? = some (.cells #[.int .u16 (st : Int)] 63 (0, 0)) ∧ W.heap[bf]? = some (.cells #[.func (.func 136) #[] #[]] 136 (0, 0)) ∧ W.heap[z]? = some (.cells #[.int .u16 (s0 : Int), .int .u16 (s1 : Int), .int .u16 (s2 : Int)] 65 (0, 0))) w2 := ⟨keep hS1.1 hb2, keep hS1.2.1 hb2, keep hS1.2.2.1 hb2, keep hS1.2.2.2 hb2⟩
  refine ⟨_, rfl, hS2, fun _ => ?_⟩
  simp only [Act.put, List.setIfInBounds_toArray, List.set_cons_zero, List.set_cons_succ]
  refine take_yes (i := 4) (some 10) (.int .u16 (t0 : Int)) rfl rfl (by kernel_rfl) (by kernel_rfl) (by kernel_rfl) (fun _ _ _ h => h) (by rfl) ?_ (by assumption) ?_
  · intro W' hSw
    obtain ⟨hz0, hz1, hz2, hz3⟩ := hSw
    simp only [sideB]
    go_simp
  simp only [Act.put, List.setIfInBounds_toArray, List.set_cons_zero, List.set_cons_succ]
  cases hg : decide (t0 = 0)
  · rw [hg] at HZ0 HD
    refine take_yes (i := 5) (some 11) (.bool true) rfl rfl (by kernel_rfl) (by kernel_rfl) (by kernel_rfl) (fun _ _ _ h => h) (by rfl) ?_ (by assumption) ?_
    · intro W' hSw
      obtain ⟨hz0, hz1, hz2, hz3⟩ := hSw
      go_simp
    simp only [Act.put, List.setIfInBounds_toArray, List.set_cons_zero, List.set_cons_succ]
    refine take_yes (i := 6) (some 12) (.bool true) rfl rfl (by kernel_rfl) (by kernel_rfl) (by kernel_rfl) (fun _ _ _ h => h) (by rfl) ?_ (by assumption) ?_
    · intro W' hSw
      obtain ⟨hz0, hz1, hz2, hz3⟩ := hSw
      go_simp
    simp only [Act.put, List.setIfInBounds_toArray, List.set_cons_zero, List.set_cons_succ]
    refine take_yes (i := 7) (some 13) (.func (.func 136) #[] #[]) rfl rfl (by kernel_rfl) (by kernel_rfl) (by kernel_rfl) (fun _ _ _ h => h) (by rfl) ?_ (by assumption) ?_
    · intro W' hSw
      obtain ⟨hz0, hz1, hz2, hz3⟩ := hSw
      have hc := cell_of_row W' _ 0 _ _ _ hz2
      simp at hc
      go_simp
    simp only [Act.put, List.setIfInBounds_toArray, List.set_cons_zero, List.set_cons_succ]
    refine take_yes (i := 8) (some 14) (.agg #[.int .u16 (s0 : Int), .int .u16 (s1 : Int), .int .u16 (s2 : Int)]) rfl rfl (by kernel_rfl) (by kernel_rfl) (by kernel_rfl) (fun _ _ _ h => h) (by rfl) ?_ (by assumption) ?_
    · intro W' hSw
      obtain ⟨hz0, hz1, hz2, hz3⟩ := hSw
      exact exec_load_rowA 65 _ rfl _ rfl 65 _ _ _ hz3 Try.underlying65 rfl Try.size65
    simp only [Act.put, List.setIfInBounds_toArray, List.set_cons_zero, List.set_cons_succ]
    refine take_yes (i := 10) (some 16) (.int .u16 (st : Int)) rfl rfl (by kernel_rfl) (by kernel_rfl) (by kernel_rfl) (fun _ _ _ h => h) (by rfl) ?_ (by assumption) ?_
    · intro W' hSw
      obtain ⟨hz0, hz1, hz2, hz3⟩ := hSw
      have hc := cell_of_row W' _ 0 _ _ _ hz1
      simp at hc
      go_simp
    simp only [Act.put, List.setIfInBounds_toArray, List.set_cons_zero, List.set_cons_succ]
    refine callv_next (i := 9) (some 15) rfl rfl (by kernel_rfl) (by rfl) 13 136 _ _ _ rfl rfl Try.func136 (by decide) rfl #[.agg #[.int .u16 (s0 : Int), .int .u16 (s1 : Int), .int .u16 (s2 : Int)]] (mapw1 _ _ _ rfl) _ (aheadA_any s0 s1 s2 w2) ?_
    rintro e w3 ⟨rfl, hb3⟩
    have hA3 := hb3
    have HB3 := hide (HB2.out.trans (hb3.mono HB2.out.size))
    have hS3 : (fun W : World => W.heap[bn]? = some (.cells #[.func (.func 135) #[] #[]] 136 (0, 0)) ∧ W.heap[bs]? = some (.cells #[.int .u16 (st : Int)] 63 (0, 0)) ∧ W.heap[bf]? = some (.cells #[.func (.func 136) #[] #[]] 136 (0, 0)) ∧ W.heap[z]? = some (.cells #[.int .u16 (s0 : Int), .int .u16 (s1 : Int), .int .u16 (s2 : Int)] 65 (0, 0))) w3 := ⟨keep hS2.1 hb3, keep hS2.2.1 hb3, keep hS2.2.2.1 hb3, keep hS2.2.2.2 hb3⟩
    refine ⟨_, rfl, hS3, fun _ => ?_⟩
    simp only [Act.put, List.setIfInBounds_toArray, List.set_cons_zero, List.set_cons_succ]
    refine take_yes (i := 11) (some 17) (.int .u16 (t1 : Int)) rfl rfl (by kernel_rfl) (by kernel_rfl) (by kernel_rfl) (fun _ _ _ h => h) (by rfl) ?_ (by assumption) ?_
    · intro W' hSw
      obtain ⟨hz0, hz1, hz2, hz3⟩ := hSw
      simp only [sideB]
      go_simp
    simp only [Act.put, List.setIfInBounds_toArray, List.set_cons_zero, List.set_cons_succ]
    refine take_yes (i := 12) (some 18) (.bool (decide (t1 = 0))) rfl rfl (by kernel_rfl) (by kernel_rfl) (by kernel_rfl) (fun _ _ _ h => h) (by rfl) ?_ (by assumption) ?_
    · intro W' hSw
      obtain ⟨hz0, hz1, hz2, hz3⟩ := hSw
      go_simp
    simp only [Act.put, List.setIfInBounds_toArray, List.set_cons_zero, List.set_cons_succ]
    refine take_yes (i := 13) (some 19) (.bool (decide (t1 = 0))) rfl rfl (by kernel_rfl) (by kernel_rfl) (by kernel_rfl) (fun _ _ _ h => h) (by rfl) ?_ (by assumption) ?_
    · intro W' hSw
      obtain ⟨hz0, hz1, hz2, hz3⟩ := hSw
      go_simp
    simp only [Act.put, List.setIfInBounds_toArray, List.set_cons_zero, List.set_cons_succ]
    refine take_yes (i := 14) (some 5) (.bool (decide (t1 = 0))) rfl rfl (by kernel_rfl) (by kernel_rfl) (by kernel_rfl) (fun _ _ _ h => h) (by rfl) ?_ (by assumption) ?_
    · intro W' hSw
      obtain ⟨hz0, hz1, hz2, hz3⟩ := hSw
      go_simp
    simp only [Act.put, List.setIfInBounds_toArray, List.set_cons_zero, List.set_cons_succ]
    refine wpAnyH_done (by kernel_rfl) ?_ _
    go_wp2_with fail
    go_ret
    exact ⟨ret_bool (by rw [HD.out]; rfl), by rw [← hz.out] at *; exact HB3.out⟩
  · rw [hg] at HZ0 HD
    refine take_yes (i := 5) (some 11) (.bool false) rfl rfl (by kernel_rfl) (by kernel_rfl) (by kernel_rfl) (fun _ _ _ h => h) (by rfl) ?_ (by assumption) ?_
    · intro W' hSw
      obtain ⟨hz0, hz1, hz2, hz3⟩ := hSw
      go_simp
    simp only [Act.put, List.setIfInBounds_toArray, List.set_cons_zero, List.set_cons_succ]
    refine take_yes (i := 6) (some 12) (.bool false) rfl rfl (by kernel_rfl) (by kernel_rfl) (by kernel_rfl) (fun _ _ _ h => h) (by rfl) ?_ (by assumption) ?_
    · intro W' hSw
      obtain ⟨hz0, hz1, hz2, hz3⟩ := hSw
      go_simp
    simp only [Act.put, List.setIfInBounds_toArray, List.set_cons_zero, List.set_cons_succ]
    refine take_no (i := 7) (some 13) rfl rfl (by kernel_rfl) (by kernel_rfl) (by kernel_rfl) (fun _ _ _ h => h) (by rfl) (by assumption) ?_
    simp only [Act.put, List.setIfInBounds_toArray, List.set_cons_zero, List.set_cons_succ]
    refine take_no (i := 8) (some 14) rfl rfl (by kernel_rfl) (by kernel_rfl) (by kernel_rfl) (fun _ _ _ h => h) (by rfl) (by assumption) ?_
    simp only [Act.put, List.setIfInBounds_toArray, List.set_cons_zero, List.set_cons_succ]
    refine take_no (i := 10) (some 16) rfl rfl (by kernel_rfl) (by kernel_rfl) (by kernel_rfl) (fun _ _ _ h => h) (by rfl) (by assumption) ?_
    simp only [Act.put, List.setIfInBounds_toArray, List.set_cons_zero, List.set_cons_succ]
    refine take_no (i := 9) (some 15) rfl rfl (by kernel_rfl) (by kernel_rfl) (by kernel_rfl) (fun _ _ _ h => h) (by rfl) (by assumption) ?_
    simp only [Act.put, List.setIfInBounds_toArray, List.set_cons_zero, List.set_cons_succ]
    refine take_no (i := 11) (some 17) rfl rfl (by kernel_rfl) (by kernel_rfl) (by kernel_rfl) (fun _ _ _ h => h) (by rfl) (by assumption) ?_
    simp only [Act.put, List.setIfInBounds_toArray, List.set_cons_zero, List.set_cons_succ]
    refine take_no (i := 12) (some 18) rfl rfl (by kernel_rfl) (by kernel_rfl) (by kernel_rfl) (fun _ _ _ h => h) (by rfl) (by assumption) ?_
    simp only [Act.put, List.setIfInBounds_toArray, List.set_cons_zero, List.set_cons_succ]
    refine take_yes (i := 13) (some 19) (.bool false) rfl rfl (by kernel_rfl) (by kernel_rfl) (by kernel_rfl) (fun _ _ _ h => h) (by rfl) ?_ (by assumption) ?_
    · intro W' hSw
      obtain ⟨hz0, hz1, hz2, hz3⟩ := hSw
      go_simp
    simp only [Act.put, List.setIfInBounds_toArray, List.set_cons_zero, List.set_cons_succ]
    refine take_yes (i := 14) (some 5) (.bool false) rfl rfl (by kernel_rfl) (by kernel_rfl) (by kernel_rfl) (fun _ _ _ h => h) (by rfl) ?_ (by assumption) ?_
    · intro W' hSw
      obtain ⟨hz0, hz1, hz2, hz3⟩ := hSw
      go_simp
    simp only [Act.put, List.setIfInBounds_toArray, List.set_cons_zero, List.set_cons_succ]
    refine wpAnyH_done (by kernel_rfl) ?_ _
    go_wp2_with fail
    go_ret
    exact ⟨ret_bool (by rw [HD.out]; rfl), by rw [← hz.out] at *; exact HB2.out⟩

set_option maxHeartbeats 2000000 in
theorem slip1T_any (s0 s1 s2 st bn bs bf : Nat) (w : World) (h0 : s0 < 2 ^ 16) (h1 : s1 < 2 ^ 16) (hst : st < 2 ^ 16)
    (hn : w.heap[bn]? = some (.cells #[.func (.func 136) #[] #[]] 136 (0, 0)))
    (hs : w.heap[bs]? = some (.cells #[.int .u16 (st : Int)] 63 (0, 0)))
    (hf : w.heap[bf]? = some (.cells #[.func (.func 135) #[] #[]] 136 (0, 0))) :
    Calls Try.prog 151 #[.agg #[.int .u16 (s0 : Int), .int .u16 (s1 : Int), .int .u16 (s2 : Int)], .pointer (some ⟨bn, 0, none⟩), .pointer (some ⟨bs, 0, none⟩), .pointer (some ⟨bf, 0, none⟩)] w fun e w' => e = .returned (.bool (slipB false s0 s1 st)) ∧ Below w.heap.size w w' := by
  have hA := below_al w (.cells #[.int .u16 (s0 : Int), .int .u16 (s1 : Int), .int .u16 (s2 : Int)] 65)
  have HB0 := hide hA
  have HN := hide (keep hn hA)
  have HS := hide (keep hs hA)
  have HF := hide (keep hf hA)
  have HC := hide (heap_alloc_new w (.cells #[.int .u16 (s0 : Int), .int .u16 (s1 : Int), .int .u16 (s2 : Int)] 65))
  have a0 := and_u16 s0 st h0 hst
  have a1 := and_u16 s1 st h1 hst
  have HD : Hid (slipB false s0 s1 st = (!decide (s0 &&& st = 0) && decide (s1 &&& st = 0))) := rfl
  have HZ0 : (((((s0 &&& st : Nat) : Int)) != 0) = !decide (s0 &&& st = 0)) := by by_cases h : s0 &&& st = 0 <;> simp [h]
  have HZ1 : (((((s1 &&& st : Nat) : Int)) == 0) = decide (s1 &&& st = 0)) := by by_cases h : s1 &&& st = 0 <;> simp [h]
  generalize s0 &&& st = t0 at *
  generalize s1 &&& st = t1 at *
  clear hA hn hs hf
  go_enter Try.func151, Try.ntmps151
  go_upto_region 1 with fail
  generalize w.alloc (.cells #[.int .u16 (s0 : Int), .int .u16 (s1 : Int), .int .u16 (s2 : Int)] 65) = v at *
  obtain ⟨z, hz⟩ : ∃ z, Hid (w.heap.size = z) := ⟨_, rfl⟩
  rw [hz.out] at HC ⊢
  have HB1 := hide HB0.out.drew
  have hS1 : (fun W : World => W.heap[bn]? = some (.cells #[.func (.func 136) #[] #[]] 136 (0, 0)) ∧ W.heap[bs]? = some (.cells #[.int .u16 (st : Int)] 63 (0, 0)) ∧ W.heap[bf]? = some (.cells #[.func (.func 135) #[] #[]] 136 (0, 0)) ∧ W.heap[z]? = some (.cells #[.int .u16 (s0 : Int), .int .u16 (s1 : Int), .int .u16 (s2 : Int)] 65 (0, 0))) v.drew := ⟨HN.out, HS.out, HF.out, HC.out⟩
  refine wp_region_held_drew (S := fun W => W.heap[bn]? = some (.cells #[.func (.func 136) #[] #[]] 136 (0, 0)) ∧ W.heap[bs]? = some (.cells #[.int .u16 (st : Int)] 63 (0, 0)) ∧ W.heap[bf]? = some (.cells #[.func (.func 135) #[] #[]] 136 (0, 0)) ∧ W.heap[z]? = some (.cells #[.int .u16 (s0 : Int), .int .u16 (s1 : Int), .int .u16 (s2 : Int)] 65 (0, 0))) (by kernel_rfl) hS1 (fun hHeld => ?_)
  clear HB0 HN HS HF HC hHeld
  generalize v.drew = w1 at *
  refine take_yes (i := 0) (some 6) (.func (.func 136) #[] #[]) rfl rfl (by kernel_rfl) (by kernel_rfl) (by kernel_rfl) (fun _ _ _ h => h) (by rfl) ?_ (by assumption) ?_
  · intro W' hSw
    obtain ⟨hz0, hz1, hz2, hz3⟩ := hSw
    have hc := cell_of_row W' _ 0 _ _ _ hz0
    simp at hc
    go_simp
  simp only [Act.put, List.setIfInBounds_toArray, List.set_cons_zero, List.set_cons_succ]
  refine take_yes (i := 1) (some 7) (.agg #[.int .u16 (s0 : Int), .int .u16 (s1 : Int), .int .u16 (s2 : Int)]) rfl rfl (by kernel_rfl) (by kernel_rfl) (by kernel_rfl) (fun _ _ _ h => h) (by rfl) ?_ (by assumption) ?_
  · intro W' hSw
    obtain ⟨hz0, hz1, hz2, hz3⟩ := hSw
    exact exec_load_rowA 65 _ rfl _ rfl 65 _ _ _ hz3 Try.underlying65 rfl Try.size65
  simp only [Act.put, List.setIfInBounds_toArray, List.set_cons_zero, List.set_cons_succ]
  refine take_yes (i := 3) (some 9) (.int .u16 (st : Int)) rfl rfl (by kernel_rfl) (by kernel_rfl) (by kernel_rfl) (fun _ _ _ h => h) (by rfl) ?_ (by assumption) ?_
  · intro W' hSw
    obtain ⟨hz0, hz1, hz2, hz3⟩ := hSw
    have hc := cell_of_row W' _ 0 _ _ _ hz1
    simp at hc
    go_simp
  simp only [Act.put, List.setIfInBounds_toArray, List.set_cons_zero, List.set_cons_succ]
  refine callv_next (i := 2) (some 8) rfl rfl (by kernel_rfl) (by rfl) 6 136 _ _ _ rfl rfl Try.func136 (by decide) rfl #[.agg #[.int .u16 (s0 : Int), .int .u16 (s1 : Int), .int .u16 (s2 : Int)]] (mapw1 _ _ _ rfl) _ (aheadA_any s0 s1 s2 w1) ?_
  rintro e w2 ⟨rfl, hb2⟩
  have hA2 := hb2
  have HB2 := hide (HB1.out.trans (hb2.mono HB1.out.size))
  have hS2 : (fun W : World => W.heap[bn]? = some (.cells #[.func (.func 136) #[] #[]] 136 (0, 0)) ∧ W.heap[bs]? = some (.cells #[.int .u16 (st : Int)] 63 (0, 0)) ∧ W.heap[bf]? = some (.cells #[.func (.func 135) #[] #[]] 136 (0, 0)) ∧ W.heap[z]? = some (.cells #[.int .u16 (s0 : Int), .int .u16 (s1 : Int), .int .u16 (s2 : Int)] 65 (0, 0))) w2 := ⟨keep hS1.1 hb2, keep hS1.2.1 hb2, keep hS1.2.2.1 hb2, keep hS1.2.2.2 hb2⟩
  refine ⟨_, rfl, hS2, fun _ => ?_⟩
  simp only [Act.put, List.setIfInBounds_toArray, List.set_cons_zero, List.set_cons_succ]
  refine take_yes (i := 4) (some 10) (.int .u16 (t0 : Int)) rfl rfl (by kernel_rfl) (by kernel_rfl) (by kernel_rfl) (fun _ _ _ h => h) (by rfl) ?_ (by assumption) ?_
  · intro W' hSw
    obtain ⟨hz0, hz1, hz2, hz3⟩ := hSw
    simp only [sideB]
    go_simp
  simp only [Act.put, List.setIfInBounds_toArray, List.set_cons_zero, List.set_cons_succ]
  cases hg : decide (t0 = 0)
  · rw [hg] at HZ0 HD
    refine take_yes (i := 5) (some 11) (.bool true) rfl rfl (by kernel_rfl) (by kernel_rfl) (by kernel_rfl) (fun _ _ _ h => h) (by rfl) ?_ (by assumption) ?_
    · intro W' hSw
      obtain ⟨hz0, hz1, hz2, hz3⟩ := hSw
      go_simp
    simp only [Act.put, List.setIfInBounds_toArray, List.set_cons_zero, List.set_cons_succ]
    refine take_yes (i := 6) (some 12) (.bool true) rfl rfl (by kernel_rfl) (by kernel_rfl) (by kernel_rfl) (fun _ _ _ h => h) (by rfl) ?_ (by assumption) ?_
    · intro W' hSw
      obtain ⟨hz0, hz1, hz2, hz3⟩ := hSw
      go_simp
    simp only [Act.put, List.setIfInBounds_toArray, List.set_cons_zero, List.set_cons_succ]
    refine take_yes (i := 7) (some 13) (.func (.func 135) #[] #[]) rfl rfl (by kernel_rfl) (by kernel_rfl) (by kernel_rfl) (fun _ _ _ h => h) (by rfl) ?_ (by assumption) ?_
    · intro W' hSw
      obtain ⟨hz0, hz1, hz2, hz3⟩ := hSw
      have hc := cell_of_row W' _ 0 _ _ _ hz2
      simp at hc
      go_simp
    simp only [Act.put, List.setIfInBounds_toArray, List.set_cons_zero, List.set_cons_succ]
    refine take_yes (i := 8) (some 14) (.agg #[.int .u16 (s0 : Int), .int .u16 (s1 : Int), .int .u16 (s2 : Int)]) rfl rfl (by kernel_rfl) (by kernel_rfl) (by kernel_rfl) (fun _ _ _ h => h) (by rfl) ?_ (by assumption) ?_
    · intro W' hSw
      obtain ⟨hz0, hz1, hz2, hz3⟩ := hSw
      exact exec_load_rowA 65 _ rfl _ rfl 65 _ _ _ hz3 Try.underlying65 rfl Try.size65
    simp only [Act.put, List.setIfInBounds_toArray, List.set_cons_zero, List.set_cons_succ]
    refine take_yes (i := 10) (some 16) (.int .u16 (st : Int)) rfl rfl (by kernel_rfl) (by kernel_rfl) (by kernel_rfl) (fun _ _ _ h => h) (by rfl) ?_ (by assumption) ?_
    · intro W' hSw
      obtain ⟨hz0, hz1, hz2, hz3⟩ := hSw
      have hc := cell_of_row W' _ 0 _ _ _ hz1
      simp at hc
      go_simp
    simp only [Act.put, List.setIfInBounds_toArray, List.set_cons_zero, List.set_cons_succ]
    refine callv_next (i := 9) (some 15) rfl rfl (by kernel_rfl) (by rfl) 13 135 _ _ _ rfl rfl Try.func135 (by decide) rfl #[.agg #[.int .u16 (s0 : Int), .int .u16 (s1 : Int), .int .u16 (s2 : Int)]] (mapw1 _ _ _ rfl) _ (behindA_any s0 s1 s2 w2) ?_
    rintro e w3 ⟨rfl, hb3⟩
    have hA3 := hb3
    have HB3 := hide (HB2.out.trans (hb3.mono HB2.out.size))
    have hS3 : (fun W : World => W.heap[bn]? = some (.cells #[.func (.func 136) #[] #[]] 136 (0, 0)) ∧ W.heap[bs]? = some (.cells #[.int .u16 (st : Int)] 63 (0, 0)) ∧ W.heap[bf]? = some (.cells #[.func (.func 135) #[] #[]] 136 (0, 0)) ∧ W.heap[z]? = some (.cells #[.int .u16 (s0 : Int), .int .u16 (s1 : Int), .int .u16 (s2 : Int)] 65 (0, 0))) w3 := ⟨keep hS2.1 hb3, keep hS2.2.1 hb3, keep hS2.2.2.1 hb3, keep hS2.2.2.2 hb3⟩
    refine ⟨_, rfl, hS3, fun _ => ?_⟩
    simp only [Act.put, List.setIfInBounds_toArray, List.set_cons_zero, List.set_cons_succ]
    refine take_yes (i := 11) (some 17) (.int .u16 (t1 : Int)) rfl rfl (by kernel_rfl) (by kernel_rfl) (by kernel_rfl) (fun _ _ _ h => h) (by rfl) ?_ (by assumption) ?_
    · intro W' hSw
      obtain ⟨hz0, hz1, hz2, hz3⟩ := hSw
      simp only [sideB]
      go_simp
    simp only [Act.put, List.setIfInBounds_toArray, List.set_cons_zero, List.set_cons_succ]
    refine take_yes (i := 12) (some 18) (.bool (decide (t1 = 0))) rfl rfl (by kernel_rfl) (by kernel_rfl) (by kernel_rfl) (fun _ _ _ h => h) (by rfl) ?_ (by assumption) ?_
    · intro W' hSw
      obtain ⟨hz0, hz1, hz2, hz3⟩ := hSw
      go_simp
    simp only [Act.put, List.setIfInBounds_toArray, List.set_cons_zero, List.set_cons_succ]
    refine take_yes (i := 13) (some 19) (.bool (decide (t1 = 0))) rfl rfl (by kernel_rfl) (by kernel_rfl) (by kernel_rfl) (fun _ _ _ h => h) (by rfl) ?_ (by assumption) ?_
    · intro W' hSw
      obtain ⟨hz0, hz1, hz2, hz3⟩ := hSw
      go_simp
    simp only [Act.put, List.setIfInBounds_toArray, List.set_cons_zero, List.set_cons_succ]
    refine take_yes (i := 14) (some 5) (.bool (decide (t1 = 0))) rfl rfl (by kernel_rfl) (by kernel_rfl) (by kernel_rfl) (fun _ _ _ h => h) (by rfl) ?_ (by assumption) ?_
    · intro W' hSw
      obtain ⟨hz0, hz1, hz2, hz3⟩ := hSw
      go_simp
    simp only [Act.put, List.setIfInBounds_toArray, List.set_cons_zero, List.set_cons_succ]
    refine wpAnyH_done (by kernel_rfl) ?_ _
    go_wp2_with fail
    go_ret
    exact ⟨ret_bool (by rw [HD.out]; rfl), by rw [← hz.out] at *; exact HB3.out⟩
  · rw [hg] at HZ0 HD
    refine take_yes (i := 5) (some 11) (.bool false) rfl rfl (by kernel_rfl) (by kernel_rfl) (by kernel_rfl) (fun _ _ _ h => h) (by rfl) ?_ (by assumption) ?_
    · intro W' hSw
      obtain ⟨hz0, hz1, hz2, hz3⟩ := hSw
      go_simp
    simp only [Act.put, List.setIfInBounds_toArray, List.set_cons_zero, List.set_cons_succ]
    refine take_yes (i := 6) (some 12) (.bool false) rfl rfl (by kernel_rfl) (by kernel_rfl) (by kernel_rfl) (fun _ _ _ h => h) (by rfl) ?_ (by assumption) ?_
    · intro W' hSw
      obtain ⟨hz0, hz1, hz2, hz3⟩ := hSw
      go_simp
    simp only [Act.put, List.setIfInBounds_toArray, List.set_cons_zero, List.set_cons_succ]
    refine take_no (i := 7) (some 13) rfl rfl (by kernel_rfl) (by kernel_rfl) (by kernel_rfl) (fun _ _ _ h => h) (by rfl) (by assumption) ?_
    simp only [Act.put, List.setIfInBounds_toArray, List.set_cons_zero, List.set_cons_succ]
    refine take_no (i := 8) (some 14) rfl rfl (by kernel_rfl) (by kernel_rfl) (by kernel_rfl) (fun _ _ _ h => h) (by rfl) (by assumption) ?_
    simp only [Act.put, List.setIfInBounds_toArray, List.set_cons_zero, List.set_cons_succ]
    refine take_no (i := 10) (some 16) rfl rfl (by kernel_rfl) (by kernel_rfl) (by kernel_rfl) (fun _ _ _ h => h) (by rfl) (by assumption) ?_
    simp only [Act.put, List.setIfInBounds_toArray, List.set_cons_zero, List.set_cons_succ]
    refine take_no (i := 9) (some 15) rfl rfl (by kernel_rfl) (by kernel_rfl) (by kernel_rfl) (fun _ _ _ h => h) (by rfl) (by assumption) ?_
    simp only [Act.put, List.setIfInBounds_toArray, List.set_cons_zero, List.set_cons_succ]
    refine take_no (i := 11) (some 17) rfl rfl (by kernel_rfl) (by kernel_rfl) (by kernel_rfl) (fun _ _ _ h => h) (by rfl) (by assumption) ?_
    simp only [Act.put, List.setIfInBounds_toArray, List.set_cons_zero, List.set_cons_succ]
    refine take_no (i := 12) (some 18) rfl rfl (by kernel_rfl) (by kernel_rfl) (by kernel_rfl) (fun _ _ _ h => h) (by rfl) (by assumption) ?_
    simp only [Act.put, List.setIfInBounds_toArray, List.set_cons_zero, List.set_cons_succ]
    refine take_yes (i := 13) (some 19) (.bool false) rfl rfl (by kernel_rfl) (by kernel_rfl) (by kernel_rfl) (fun _ _ _ h => h) (by rfl) ?_ (by assumption) ?_
    · intro W' hSw
      obtain ⟨hz0, hz1, hz2, hz3⟩ := hSw
      go_simp
    simp only [Act.put, List.setIfInBounds_toArray, List.set_cons_zero, List.set_cons_succ]
    refine take_yes (i := 14) (some 5) (.bool false) rfl rfl (by kernel_rfl) (by kernel_rfl) (by kernel_rfl) (fun _ _ _ h => h) (by rfl) ?_ (by assumption) ?_
    · intro W' hSw
      obtain ⟨hz0, hz1, hz2, hz3⟩ := hSw
      go_simp
    simp only [Act.put, List.setIfInBounds_toArray, List.set_cons_zero, List.set_cons_succ]
    refine wpAnyH_done (by kernel_rfl) ?_ _
    go_wp2_with fail
    go_ret
    exact ⟨ret_bool (by rw [HD.out]; rfl), by rw [← hz.out] at *; exact HB2.out⟩
end Go.Proofs.Ytajcmamapmeglaa
