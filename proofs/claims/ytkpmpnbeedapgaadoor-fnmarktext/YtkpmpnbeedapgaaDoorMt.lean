/- What both MarkTexts answer, for every number of places and every list: the text and true where the mark is good, else the empty text and false; nothing that was there is written. -/
import Derived.Test.YtkpmpnbeedapgaaDoorNm
namespace Go.Proofs.YtkpmpnbeedapgaaDoor
open Go.RowKit Go.Lib

theorem numB_size (n : Nat) : (numB n).size ≤ 2 ∧ 1 ≤ (numB n).size := by
  unfold numB; split
  · exact ⟨by show 1 ≤ 2; omega, by show 1 ≤ 1; omega⟩
  · exact ⟨by show 2 ≤ 2; omega, by show 1 ≤ 2; omega⟩

/-- How a call ends that lays bytes on a row of its caller's own. -/
def AppEnd (B : Nat) (k : Nat) (l : List Value) (s : ByteArray) (w : World) (e : Ending) (w' : World) : Prop :=
  ∃ v', e = .returned v' ∧ w'.ownsRow B 5 1 v' (k + s.size) (l ++ strCells s) ∧ Below B w w'

theorem Tryd.info5 : (Tryd.prog.info? 5).map (fun i => (i.zero, i.size, i.bytes)) = some (some (.int .u8 0), 1, 1) := by kernel_rfl

theorem own_below8 {B : Nat} {w w' : World} {v : Value} {n : Nat} {l : List Value} (hown : w.ownsRow B 5 1 v n l) (hg : w.grownBy w' v.ownBlock) {a : World} (h : Below B a w) (hC : B ≤ w.heap.size) : Below B a w' :=
  h.grown hg hC fun k hk => (hown.lt k hk).1

set_option maxHeartbeats 400000 in
theorem appU_any (B : Nat) (v : Value) (k n : Nat) (l : List Value) (w : World) (hown : w.ownsRow B 5 1 v k l) (hB : B ≤ w.heap.size) (hn : n ≤ 50) (hk : k ≤ 1000000) :
    Calls Tryd.prog 39 #[v, .int .u64 (n : Int), .int .i64 10] w fun e w' => AppEnd B k l (numB n) w e w' := by
  obtain ⟨i0, hi, hz0, hz1, hz2⟩ := info_parts Tryd.info5
  have HO := hide hown
  have hnb := numB_size n
  have h1 : (n : Int) < 100 := by omega
  have h0 : (0 : Int) ≤ (n : Int) := by omega
  have S3 := hide (fun v' W' (h1 : W'.ownsRow B 5 1 v' (k + (numB n).size) (l ++ strCells (numB n))) (h2 : w.grownBy W' v.ownBlock) => (⟨v', rfl, h1, own_below8 hown h2 (Below.refl _ _) hB⟩ : AppEnd B k l (numB n) w (.returned v') W'))
  clear hown
  go_enter Tryd.func39, Tryd.ntmps39
  go_wp2_with (first
    | (go_at_call 41; refine (small_any n _ hn).mono ?_; rintro e w1 ⟨rfl, hv⟩; rw [hv]; clear hv)
    | (at_builtin; refine wpList_append_own_string _ rfl (.tmp 13) (.tmp 16) 22 9 rfl B 5 i0 Tryd.underlying22 Tryd.underlying9 hi hz0 hz1 hz2 v k l rfl HO.out (numB n) rfl (by unfold maxLen; omega) (by omega) hB ?_; intro v' W' r1 r2 _; have R := hide (S3.out v' W' r1 r2); clear r1 r2))
  go_ret
  exact R.out

set_option maxHeartbeats 400000 in
theorem appI_any (B : Nat) (v : Value) (k n : Nat) (l : List Value) (w : World) (hown : w.ownsRow B 5 1 v k l) (hB : B ≤ w.heap.size) (hn : n ≤ 50) (hk : k ≤ 1000000) :
    Calls Tryd.prog 20 #[v, .int .i64 (n : Int), .int .i64 10] w fun e w' => AppEnd B k l (numB n) w e w' := by
  have HA := hide (appU_any B v k n l w hown hB hn hk)
  have h0 : (0 : Int) ≤ (n : Int) := by omega
  have h1 : (n : Int) ≤ 50 := by omega
  clear hown
  go_enter Tryd.func20, Tryd.ntmps20
  go_wp2_with (first
    | (go_at_call 39; refine HA.out.mono ?_; rintro e w1 ⟨v', rfl, h1, h2⟩; have R := hide (⟨v', rfl, h1, h2⟩ : AppEnd B k l (numB n) w (.returned v') w1); clear h1 h2)
    | go_in)
  go_ret
  exact R.out
theorem strCells_app (a b : ByteArray) : strCells (a ++ b) = strCells a ++ strCells b := by
  simp [strCells]

def blankB : ByteArray := ⟨#[32]⟩

/-- The text of the first k numbers. -/
def textU (f : Nat → Nat) : Nat → ByteArray
  | 0 => ByteArray.empty
  | k + 1 => (if k = 0 then ByteArray.empty else textU f k ++ blankB) ++ numB (f k)

def headU (f : Nat → Nat) (k : Nat) : ByteArray := if k = 0 then ByteArray.empty else textU f k ++ blankB
theorem textU_succ (f : Nat → Nat) (k : Nat) : textU f (k + 1) = headU f k ++ numB (f k) := rfl

theorem textU_size (f : Nat → Nat) (k : Nat) : (textU f k).size ≤ 3 * k ∧ (headU f k).size ≤ 3 * k + 1 := by
  induction k with
  | zero => exact ⟨Nat.le_refl 0, by show 0 ≤ _; omega⟩
  | succ k ih =>
    have h1 : (textU f (k + 1)).size ≤ 3 * (k + 1) := by
      rw [textU_succ, ByteArray.size_append]
      have := numB_size (f k)
      omega
    refine ⟨h1, ?_⟩
    unfold headU
    rw [if_neg (by omega), ByteArray.size_append]
    show _ + 1 ≤ _
    omega

theorem textU_ne (f : Nat → Nat) (k : Nat) : 1 ≤ (textU f (k + 1)).size := by
  rw [textU_succ, ByteArray.size_append]; have := numB_size (f k); omega

theorem add_str (a b : ByteArray) (h : a.size + b.size ≤ 1000) (W : World) : (Op.stringOp .add a b).run Tryd.prog W = .ok (.string (a ++ b)) W := run_string_add_sum (P := Tryd.prog) W a b (by omega)

def natF (xs : List Int) : Nat → Nat := fun i => (xs.getD i 0).toNat

def Text1End (s : ByteArray) (w : World) (e : Ending) (w' : World) : Prop := e = .returned (.string s) ∧ Below w.heap.size w w'

/-- Each number of the list is in 0..50. -/
def Small8 (xs : List Int) : Prop := ∀ i, 0 ≤ xs.getD i 0 ∧ xs.getD i 0 ≤ 50

set_option maxHeartbeats 1000000 in
theorem text_any (a : Option Addr) (n ca : Nat) (xs : List Int) (w : World) (ha : Row w a n xs) (hn : n ≤ 16) (hs : Small8 xs) :
    Calls Tryd.prog 22 #[.slice a n ca] w fun e w' => Text1End (textU (natF xs) n) w e w' := by
  have HA := hide ha
  clear ha
  go_enter Tryd.func22, Tryd.ntmps22
  go_wp2
  go_loopw [3, 8] (fun t i wr => ∃ k : Nat, k ≤ n ∧ i = .int .i64 k ∧ t = .string (textU (natF xs) k) ∧ Hid (Below w.heap.size w wr)) (fun _ i _ => n - (intOf i).toNat)
  case atStart => exact ⟨0, Nat.zero_le _, rfl, rfl, Below.refl _ _⟩
  case round =>
    obtain ⟨k, hk, rfl, rfl, HB⟩ := hrel
    by_cases hlt : k < n
    · obtain ⟨b1, o1, x, rfl, hl1, hc1, H1⟩ := (HA.out.below HB.out).at hlt
      have hki : (k : Int) < (n : Int) := by omega
      have hx := hs k
      rw [List.getD_eq_getElem?_getD, H1.out] at hx
      have hx' : 0 ≤ x ∧ x ≤ 50 := hx
      obtain ⟨m, rfl⟩ : ∃ m : Nat, x = (m : Int) := ⟨x.toNat, by omega⟩
      have hf : natF xs k = m := by unfold natF; rw [List.getD_eq_getElem?_getD, H1.out]; rfl
      have hts := textU_size (natF xs) k
      have hnb := numB_size m
      have HT := hide (textU_succ (natF xs) k)
      rw [hf] at HT
      have ha2 := add_str (headU (natF xs) k) (numB m) (by omega)
      rw [← HT.out] at ha2
      have HN := hide (fun W => num_any m W (by omega))
      by_cases hk0 : k = 0
      · have hkp : ¬ (0 : Int) < (k : Int) := by omega
        have e0 : headU (natF xs) k = textU (natF xs) k := by unfold headU; rw [if_pos hk0, hk0]; rfl
        rw [e0] at ha2
        clear hx hx' hf hts hnb e0 hk0
        go_wp2_with (go_at_call 35; refine (HN.out _).mono ?_; rintro e w1 ⟨rfl, hb1⟩)
        go_roundw
        case rel => exact ⟨k + 1, by omega, by go_num, rfl, HB.out.trans (hb1.mono HB.out.size)⟩
        case measure => simp [intOf]; omega
      · have hkp : (0 : Int) < (k : Int) := by omega
        have ha1 := add_str (textU (natF xs) k) blankB (by have : blankB.size = 1 := rfl; omega)
        have e0 : headU (natF xs) k = textU (natF xs) k ++ blankB := by unfold headU; rw [if_neg hk0]
        rw [e0] at ha2
        rw [show blankB = ⟨#[32]⟩ from rfl] at ha1 ha2
        clear hx hx' hf hts hnb e0
        go_wp2_with (go_at_call 35; refine (HN.out _).mono ?_; rintro e w1 ⟨rfl, hb1⟩)
        go_roundw
        case rel => exact ⟨k + 1, by omega, by go_num, rfl, HB.out.trans (hb1.mono HB.out.size)⟩
        case measure => simp [intOf]; omega
    · have hk' : k = n := by omega
      subst hk'
      go_wp2
      go_ret
      exact ⟨rfl, HB.out⟩

theorem good_small {p : Int} {xs : List Int} (h : goodB p xs = true) : Small8 xs ∧ xs.length ≤ 16 ∧ 1 ≤ xs.length := by
  simp only [goodB, Bool.and_eq_true, decide_eq_true_eq] at h
  obtain ⟨⟨h1, h2⟩, h3⟩ := h
  refine ⟨fun i => ?_, (inB_le h1 h2).2, (inB_le h1 h2).1⟩
  by_cases hi : i < xs.length
  · rw [List.getD_eq_getElem?_getD, List.getElem?_eq_getElem hi]
    have := List.all_eq_true.mp h3 xs[i] (List.getElem_mem hi)
    simp [inB] at this
    simpa using this
  · rw [List.getD_eq_getElem?_getD, List.getElem?_eq_none (by omega)]
    simp

def txtB (p : Int) (xs : List Int) : ByteArray := if goodB p xs then textU (natF xs) xs.length else ⟨#[]⟩

def TextEnd (p : Int) (xs : List Int) (w : World) (e : Ending) (w' : World) : Prop :=
  e = .returned (.tuple #[.string (txtB p xs), .bool (goodB p xs)]) ∧ Below w.heap.size w w'

theorem textEnd_no {p : Int} {xs : List Int} {w w' : World} (h : goodB p xs = false) (hb : Below w.heap.size w w') : TextEnd p xs w (.returned (.tuple #[.string ⟨#[]⟩, .bool false])) w' := by
  refine ⟨?_, hb⟩; unfold txtB; rw [h]; rfl

theorem textEnd_yes {p : Int} {xs : List Int} {w w' : World} {s : ByteArray} (h : goodB p xs = true) (hs : textU (natF xs) xs.length = s) (hb : Below w.heap.size w w') : TextEnd p xs w (.returned (.tuple #[.string s, .bool true])) w' := by
  refine ⟨?_, hb⟩; unfold txtB; rw [h, ← hs]; rfl

set_option maxHeartbeats 400000 in
theorem textS_any (p : Int) (a : Option Addr) (n ca : Nat) (xs : List Int) (w : World) (ha : Row w a n xs) (hn : n ≤ 1048576) :
    Calls Tryd.prog 9 #[.int .i64 p, .slice a n ca] w fun e w' => TextEnd p xs w e w' := by
  have HG := hide (goodS_any p a n ca xs w ha hn)
  by_cases hg : goodB p xs = true
  · have hp := good_small hg
    have hl := ha.1
    have HT := hide (text_any a n ca xs w ha (by omega) hp.1)
    have HY := hide (fun w' (hb : Below w.heap.size w w') => textEnd_yes hg (by rw [hl]) hb)
    clear hp hl ha
    go_enter Tryd.func9, Tryd.ntmps9
    go_wp2_with (first
      | (go_at_call 21; refine HG.out.mono ?_; rintro e w' ⟨rfl, hv⟩; rw [hv]; clear hv)
      | (go_at_call 22; refine HT.out.mono ?_; rintro e w1 ⟨rfl, hb1⟩))
    go_ret2
    exact HY.out _ hb1
  · have hg' : goodB p xs = false := by simpa using hg
    have HN := hide (textEnd_no (w := w) (w' := w) hg' (Below.refl _ _))
    clear hg ha
    go_enter Tryd.func9, Tryd.ntmps9
    go_wp2_with (go_at_call 21; refine HG.out.mono ?_; rintro e w' ⟨rfl, hv⟩; rw [hv]; clear hv)
    go_ret2
    exact HN.out

theorem conv_own {B : Nat} {W : World} {v : Value} {s : ByteArray} (h : W.ownsRow B 5 1 v s.size (strCells s)) (h1 : 1 ≤ s.size) :
    (convert 22 9 v).run Tryd.prog W = .ok (.string s) W := by
  rcases h.2 with ⟨_, h0⟩ | ⟨g, cap, cur, rfl, hb, hh, hnc, _, hsz, ht⟩
  · omega
  · have hl : s.data.toList.length = s.size := by simp
    have := run_convert_bytes_back (P := Tryd.prog) W 22 9 5 ⟨g, 0, none⟩ cap s.data.toList Tryd.underlying22 Tryd.underlying5 Tryd.underlying9 (by
      intro j hj
      have ea : (⟨g, 0, none⟩ : Addr).add j = ⟨g, j, none⟩ := by unfold Addr.add; split <;> simp_all
      rw [ea, cell_of_row W g j _ _ _ hh]
      have e1 : (cur.toList.take (s.size * 1))[j]? = some (.int .u8 ((s.data.toList[j]).toNat : Int)) := by
        rw [ht]; simp only [strCells, List.getElem?_map, List.getElem?_eq_getElem hj]; rfl
      rw [List.getElem?_take_of_lt (by rw [hl] at hj; omega)] at e1
      simpa using e1)
    rw [hl] at this
    simpa using this
end Go.Proofs.YtkpmpnbeedapgaaDoor
