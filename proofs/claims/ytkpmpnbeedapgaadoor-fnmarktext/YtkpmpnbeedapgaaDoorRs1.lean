/- What the specification's l1Read, l1Split and ReadMark answer, and the program's ReadMark at every argument. -/
import Derived.Test.YtkpmpnbeedapgaaDoorRi
import Derived.Lib.Strings
namespace Go.Proofs.YtkpmpnbeedapgaaDoor
open Go.RowKit

set_option maxHeartbeats 400000 in
theorem readI_any (p : Int) (s : ByteArray) (w : World) (ht : Tab 0 w) (hs : s.size ≤ 1048576) :
    Calls Tryd.prog 10 #[.int .i64 p, .string s] w fun e w' => ReadE (readOk p (bytesOf s)) (readR p (bytesOf s)) w e w' := by
  by_cases hp : inB p 1 16 = true
  · by_cases h100 : s.size ≤ 100
    · obtain ⟨n, rfl⟩ : ∃ n : Nat, p = (n : Int) := ⟨p.toNat, by simp [inB] at hp; omega⟩
      exact readI_run n s w ht hp (by simp [inB] at hp; omega) h100
    · have HF := hide (readE_no (p := p) (bs := bytesOf s) (w := w) (w' := w) (by unfold readOk; rw [bytesOf_len]; simp [h100]) (Below.refl _ _))
      have h1 : (100 : Int) < (s.size : Int) := by omega
      clear ht
      go_enter Tryd.func10, Tryd.ntmps10
      go_wp2_with (go_at_call 23; refine (goodPlaces_any _ _).mono ?_; rintro e w' ⟨rfl, rfl⟩)
      go_ret2
      exact HF.out
  · have hp' : inB p 1 16 = false := by simpa using hp
    have HF := hide (readE_no (p := p) (bs := bytesOf s) (w := w) (w' := w) (by unfold readOk; rw [goodB_p hp']; simp) (Below.refl _ _))
    clear ht hp
    go_enter Tryd.func10, Tryd.ntmps10
    go_wp2_with (go_at_call 23; refine (goodPlaces_any _ _).mono ?_; rintro e w' ⟨rfl, rfl⟩)
    go_ret2
    exact HF.out

theorem valOf_lt (w : List Int) (h : w.all digB = true) : valOf w < 10 ^ w.length := by
  suffices ∀ n : Int, 0 ≤ n → w.foldl (fun n b => 10 * n + (b - 48)) n < (n + 1) * 10 ^ w.length by
    have := this 0 (by omega); simpa [valOf] using this
  induction w with
  | nil => intro n hn; simp; omega
  | cons b w ih =>
    intro n hn
    rw [List.all_cons, Bool.and_eq_true] at h
    have hb := h.1
    simp only [digB, Bool.and_eq_true, decide_eq_true_eq] at hb
    have := ih h.2 (10 * n + (b - 48)) (by omega)
    rw [List.foldl_cons, List.length_cons, Int.pow_succ]
    have hpos : (0 : Int) < 10 ^ w.length := Int.pow_pos (by omega)
    have h2 : (10 * n + (b - 48) + 1) * 10 ^ w.length ≤ (n + 1) * 10 * 10 ^ w.length := Int.mul_le_mul_of_nonneg_right (by omega) (Int.le_of_lt hpos)
    have e : (n + 1) * (10 ^ w.length * 10) = (n + 1) * 10 * 10 ^ w.length := by rw [Int.mul_assoc, Int.mul_comm 10]
    omega

theorem valOf_small {w : List Int} (h : w.all digB = true) (hl : w.length ≤ 6) : 0 ≤ valOf w ∧ valOf w ≤ 999999 := by
  have h1 := valOf_lt w h
  have h2 : (10 : Int) ^ w.length ≤ 10 ^ 6 := by exact_mod_cast Nat.pow_le_pow_right (by omega) hl
  have h3 := valOf_nonneg w h
  omega

theorem all_next {bs : List Int} {k : Nat} {b : Int} (hb : Hid (bs[k]? = some b)) (h : (bs.take k).all digB = true) (hd : 48 ≤ b ∧ b ≤ 57) : (bs.take (k + 1)).all digB = true := by
  rw [take_next hb, List.all_append, h]; simp [digB]; omega

theorem val_next {bs : List Int} {k : Nat} {b : Int} (hb : Hid (bs[k]? = some b)) : valOf (bs.take (k + 1)) = 10 * valOf (bs.take k) + (b - 48) := by
  rw [take_next hb, valOf_snoc]

theorem readW_not {w : List Int} (h : shortB w = false) : readW w = -1 := by unfold readW; rw [h]; rfl
theorem readW_yes {w : List Int} (h : shortB w = true) (hd : w.all digB = true) : readW w = valOf w := by unfold readW; rw [h, hd]; rfl

theorem ret_i {a b : Int} (h : a = b) : Ending.returned (.int .i64 a) = .returned (.int .i64 b) := by rw [h]

set_option maxHeartbeats 1000000 in
theorem readS_any (s : ByteArray) (w : World) :
    Calls Tryd.prog 30 #[.string s] w fun e w' => e = .returned (.int .i64 (readW (bytesOf s))) ∧ w' = w := by
  by_cases hin : inB (s.size : Int) 1 6 = true
  · have hb : 1 ≤ s.size ∧ s.size ≤ 6 := by simp [inB] at hin; omega
    have h0 : 0 < s.size := by omega
    have H0 := bytesOf_at s 0 h0
    obtain ⟨x0, hx0⟩ : ∃ x : Int, ((s[0]'h0).toNat : Int) = x := ⟨_, rfl⟩
    rw [hx0] at H0
    by_cases hz : x0 = 48 ∧ 1 < s.size
    · have HR := hide (readW_not (w := bytesOf s) (by unfold shortB; rw [bytesOf_len, List.getD_eq_getElem?_getD, H0.out]; simp [hz.1]; omega))
      obtain ⟨rfl, h1⟩ := hz
      have h1' : (1 : Int) < (s.size : Int) := by omega
      go_enter Tryd.func30, Tryd.ntmps30
      go_wp2_with (go_at_call 38; refine (in_any _ _ _ _).mono ?_; rintro e w' ⟨rfl, rfl⟩)
      go_ret
      exact ⟨ret_i HR.out.symm, rfl⟩
    · have hsh : Hid (shortB (bytesOf s) = true) := by
        show _ = _
        unfold shortB; rw [bytesOf_len, List.getD_eq_getElem?_getD, H0.out]
        simp; omega
      have go : Calls Tryd.prog 30 #[.string s] w fun e w' => e = .returned (.int .i64 (readW (bytesOf s))) ∧ w' = w := by
        by_cases h48 : x0 = 48
        · subst h48
          have h1' : ¬ (1 : Int) < (s.size : Int) := by omega
          go_enter Tryd.func30, Tryd.ntmps30
          go_wp2_with (go_at_call 38; refine (in_any _ _ _ _).mono ?_; rintro e w' ⟨rfl, rfl⟩)
          clear hin
          go_loop [3, 4] (fun n i => ∃ k : Nat, k ≤ s.size ∧ i = .int .i64 k ∧ n = .int .i64 (valOf ((bytesOf s).take k)) ∧ Hid (((bytesOf s).take k).all digB = true)) (fun _ i => s.size - (intOf i).toNat)
          case atStart => exact ⟨0, Nat.zero_le _, rfl, rfl, rfl⟩
          case round =>
            obtain ⟨k, hk, rfl, rfl, hall⟩ := hrel
            by_cases hlt : k < s.size
            · have hki : (k : Int) < (s.size : Int) := by omega
              have H1 := bytesOf_at s k hlt
              obtain ⟨x, hx⟩ : ∃ x : Int, ((s[k]'hlt).toNat : Int) = x := ⟨_, rfl⟩
              rw [hx] at H1
              have hx1 : 0 ≤ x ∧ x ≤ 255 := by have := (s[k]'hlt).toNat_lt; omega
              by_cases hlo : x < 48
              · have HR := hide (readW_other (w := bytesOf s) (List.mem_of_getElem? H1.out) (by simp [digB]; omega))
                clear hall
                go_wp2
                go_ret
                exact ⟨ret_i HR.out.symm, rfl⟩
              · by_cases hhi : 57 < x
                · have HR := hide (readW_other (w := bytesOf s) (List.mem_of_getElem? H1.out) (by simp [digB]; omega))
                  clear hall
                  go_wp2
                  go_ret
                  exact ⟨ret_i HR.out.symm, rfl⟩
                · have HA := hide (all_next H1 hall.out ⟨by omega, by omega⟩)
                  have HV := hide (val_next H1)
                  have hvb := valOf_small hall.out (by rw [List.length_take]; omega)
                  obtain ⟨v, hvq⟩ : ∃ v, Hid (valOf ((bytesOf s).take k) = v) := ⟨_, rfl⟩
                  rw [hvq.out] at hvb ⊢
                  rw [hvq.out] at HV
                  clear hall
                  go_wp2
                  go_round
                  case rel => exact ⟨k + 1, by omega, by go_num, by rw [HV.out], HA⟩
                  case measure => simp [intOf]; omega
            · have hk' : k = s.size := by omega
              have e : (bytesOf s).take k = bytesOf s := List.take_of_length_le (by rw [bytesOf_len]; omega)
              rw [e] at hall
              have HR := hide (readW_yes hsh.out hall.out)
              rw [e]
              clear hall e
              go_wp2
              go_ret
              exact ⟨ret_i HR.out.symm, rfl⟩
        · have h48' : (x0 == 48) = false := by simpa using h48
          go_enter Tryd.func30, Tryd.ntmps30
          go_wp2_with (go_at_call 38; refine (in_any _ _ _ _).mono ?_; rintro e w' ⟨rfl, rfl⟩)
          clear hin
          go_loop [3, 4] (fun n i => ∃ k : Nat, k ≤ s.size ∧ i = .int .i64 k ∧ n = .int .i64 (valOf ((bytesOf s).take k)) ∧ Hid (((bytesOf s).take k).all digB = true)) (fun _ i => s.size - (intOf i).toNat)
          case atStart => exact ⟨0, Nat.zero_le _, rfl, rfl, rfl⟩
          case round =>
            obtain ⟨k, hk, rfl, rfl, hall⟩ := hrel
            by_cases hlt : k < s.size
            · have hki : (k : Int) < (s.size : Int) := by omega
              have H1 := bytesOf_at s k hlt
              obtain ⟨x, hx⟩ : ∃ x : Int, ((s[k]'hlt).toNat : Int) = x := ⟨_, rfl⟩
              rw [hx] at H1
              have hx1 : 0 ≤ x ∧ x ≤ 255 := by have := (s[k]'hlt).toNat_lt; omega
              by_cases hlo : x < 48
              · have HR := hide (readW_other (w := bytesOf s) (List.mem_of_getElem? H1.out) (by simp [digB]; omega))
                clear hall
                go_wp2
                go_ret
                exact ⟨ret_i HR.out.symm, rfl⟩
              · by_cases hhi : 57 < x
                · have HR := hide (readW_other (w := bytesOf s) (List.mem_of_getElem? H1.out) (by simp [digB]; omega))
                  clear hall
                  go_wp2
                  go_ret
                  exact ⟨ret_i HR.out.symm, rfl⟩
                · have HA := hide (all_next H1 hall.out ⟨by omega, by omega⟩)
                  have HV := hide (val_next H1)
                  have hvb := valOf_small hall.out (by rw [List.length_take]; omega)
                  obtain ⟨v, hvq⟩ : ∃ v, Hid (valOf ((bytesOf s).take k) = v) := ⟨_, rfl⟩
                  rw [hvq.out] at hvb ⊢
                  rw [hvq.out] at HV
                  clear hall
                  go_wp2
                  go_round
                  case rel => exact ⟨k + 1, by omega, by go_num, by rw [HV.out], HA⟩
                  case measure => simp [intOf]; omega
            · have hk' : k = s.size := by omega
              have e : (bytesOf s).take k = bytesOf s := List.take_of_length_le (by rw [bytesOf_len]; omega)
              rw [e] at hall
              have HR := hide (readW_yes hsh.out hall.out)
              rw [e]
              clear hall e
              go_wp2
              go_ret
              exact ⟨ret_i HR.out.symm, rfl⟩
      exact go
  · have hin' : inB (s.size : Int) 1 6 = false := by simpa using hin
    have HR := hide (readW_not (w := bytesOf s) (by unfold shortB; rw [bytesOf_len]; simp [inB] at hin'; simp; omega))
    clear hin
    go_enter Tryd.func30, Tryd.ntmps30
    go_wp2_with (go_at_call 38; refine (in_any _ _ _ _).mono ?_; rintro e w' ⟨rfl, rfl⟩)
    go_ret
    exact ⟨ret_i HR.out.symm, rfl⟩
theorem Tryd.info9 : (Tryd.prog.info? 9).map (fun i => (i.zero, i.size, i.bytes)) = some (some (.string ByteArray.empty), 1, 16) := by kernel_rfl

theorem bytesOf_extract (s : ByteArray) (a b : Nat) : bytesOf (s.extract a b) = ((bytesOf s).take b).drop a := by
  unfold bytesOf
  rw [Lib.extract_data, List.drop_take, List.map_take, List.map_drop]

/-- How l1Split ends. -/
def SplitEnd (s : ByteArray) (w : World) (e : Ending) (w' : World) : Prop :=
  ∃ (v : Value) (ts : List ByteArray), e = .returned v ∧ w'.ownsRow w.heap.size 9 1 v ts.length (ts.map Value.string) ∧ ts.map bytesOf = words (bytesOf s) ∧ Below w.heap.size w w'

/-- What the cutting keeps in mind behind k bytes. -/
structure Cuts (s : ByteArray) (k f : Nat) (ts : List ByteArray) : Prop where
  le : f ≤ k
  done : ts.map bytesOf = (wordsSt ((bytesOf s).take k)).1
  cur : ((bytesOf s).take k).drop f = (wordsSt ((bytesOf s).take k)).2

theorem Cuts.other {s : ByteArray} {k f : Nat} {ts : List ByteArray} {b : Int} (h : Cuts s k f ts) (hb : Hid ((bytesOf s)[k]? = some b)) (h32 : b ≠ 32) (hk : k < (bytesOf s).length) : Cuts s (k + 1) f ts := by
  have e : wordsSt ((bytesOf s).take (k + 1)) = ((wordsSt ((bytesOf s).take k)).1, (wordsSt ((bytesOf s).take k)).2 ++ [b]) := by rw [take_next hb, wordsSt_snoc]; simp [stepW, h32]
  have hle := h.le
  refine ⟨by omega, by rw [e]; exact h.done, ?_⟩
  rw [e, take_next hb, List.drop_append_of_le_length (by rw [List.length_take]; omega), h.cur]

theorem Cuts.blank {s : ByteArray} {k f : Nat} {ts : List ByteArray} (h : Cuts s k f ts) (hb : Hid ((bytesOf s)[k]? = some 32)) (hk : k < (bytesOf s).length) : Cuts s (k + 1) (k + 1) (ts ++ [s.extract f k]) := by
  have e : wordsSt ((bytesOf s).take (k + 1)) = ((wordsSt ((bytesOf s).take k)).1 ++ [(wordsSt ((bytesOf s).take k)).2], []) := by rw [take_next hb, wordsSt_snoc]; simp [stepW]
  refine ⟨Nat.le_refl _, ?_, ?_⟩
  · rw [e, List.map_append, h.done, List.map_cons, List.map_nil, bytesOf_extract, h.cur]
  · rw [e, List.drop_eq_nil_of_le (by rw [List.length_take]; omega)]
theorem ownsRow_belowS {B : Nat} {w w' : World} {v : Value} {n : Nat} {l : List Value} (hown : w.ownsRow B 9 1 v n l) (hg : w.grownBy w' v.ownBlock) {a : World} (h : Below B a w) (hC : B ≤ w.heap.size) : Below B a w' := by
  refine h.grown hg hC fun k hk => (hown.lt k hk).1

set_option maxHeartbeats 1000000 in
theorem split_any (s : ByteArray) (w : World) (hs : s.size ≤ 100) :
    Calls Tryd.prog 29 #[.string s, .int .u8 32] w fun e w' => SplitEnd s w e w' := by
  obtain ⟨i0, hi, hz0, hz1, hz2⟩ := info_parts Tryd.info9
  go_enter Tryd.func29, Tryd.ntmps29
  go_wp2
  go_loopw [5, 6, 7] (fun o tf i wr => ∃ (k f : Nat) (ts : List ByteArray), k ≤ s.size ∧ i = .int .i64 k ∧ tf = .int .i64 f ∧ ts.length ≤ k ∧ Hid (Cuts s k f ts) ∧ Hid (wr.ownsRow w.heap.size 9 1 o ts.length (ts.map Value.string)) ∧ Hid (Below w.heap.size w wr)) (fun _ _ i _ => s.size - (intOf i).toNat)
  case atStart => exact ⟨0, 0, [], Nat.zero_le _, rfl, rfl, Nat.le_refl _, ⟨Nat.le_refl _, by simp [wordsSt], by simp [wordsSt]⟩, World.ownsRow_nil _ _ _ _, Below.refl _ _⟩
  case round =>
    obtain ⟨k, f, ts, hk, rfl, rfl, htl, HC, HOwn, HB⟩ := hrel
    have hfk := HC.out.le
    have hsz := HB.out.size
    have hfi : (f : Int) ≤ (k : Int) := by omega
    by_cases hlt : k < s.size
    · have hki : (k : Int) < (s.size : Int) := by omega
      have H1 := bytesOf_at s k hlt
      obtain ⟨x, hx⟩ : ∃ x : Int, ((s[k]'hlt).toNat : Int) = x := ⟨_, rfl⟩
      rw [hx] at H1
      by_cases h32 : x = 32
      · subst h32
        have HN := hide (HC.out.blank H1 (by rw [bytesOf_len]; exact hlt))
        have S3 := hide (fun v' W' (h1 : W'.ownsRow w.heap.size 9 1 v' (ts.length + 1) (ts.map Value.string ++ [.string (s.extract f k)])) (h2 : (wr.alloc (.cells #[.string (s.extract f k)] 9)).grownBy W' u5.ownBlock) =>
          (⟨k + 1, k + 1, ts ++ [s.extract f k], by omega, by go_num, by go_num, by simp; omega, HN.out, (by show World.ownsRow _ _ _ _ _ _ _; rw [List.length_append, List.map_append]; exact h1), ownsRow_belowS (HOwn.out.alloc _) h2 (HB.out.alloc hsz _) (by simp; omega)⟩ :
            ∃ (k1 f1 : Nat) (ts1 : List ByteArray), k1 ≤ s.size ∧ Value.int .i64 ((k : Int) + 1) = .int .i64 k1 ∧ Value.int .i64 ((k : Int) + 1) = .int .i64 f1 ∧ ts1.length ≤ k1 ∧ Hid (Cuts s k1 f1 ts1) ∧ Hid (W'.ownsRow w.heap.size 9 1 v' ts1.length (ts1.map Value.string)) ∧ Hid (Below w.heap.size w W')))
        have HO := hide (HOwn.out.alloc (.cells #[.string (s.extract f k)] 9))
        clear HC HOwn HN
        go_wp2_with (at_builtin; refine wpList_append_own _ rfl (.tmp 19) (.tmp 24) 51 rfl w.heap.size 9 i0 (.string ByteArray.empty) 1 16 Tryd.underlying51 hi hz0 hz1 hz2 rfl (by decide) u5 ts.length _ rfl HO.out ⟨wr.heap.size, 0, none⟩ 1 1 [.string (s.extract f k)] rfl rfl (cell_one_new _ _ _) (by intro u hu; simp at hu; subst hu; rfl) (by unfold maxLen; omega) (by omega) (by simp; omega) ?_; intro v' W' r1 r2 _; have R := hide (S3.out v' W' r1 r2); clear r1 r2)
        go_roundw
        case rel => exact R.out
        case measure => simp [intOf]; omega
      · have HN := hide (HC.out.other H1 h32 (by rw [bytesOf_len]; exact hlt))
        have e32 : (x == 32) = false := by simpa using h32
        clear HC h32
        go_wp2
        go_roundw
        case rel => exact ⟨k + 1, f, ts, by omega, by go_num, rfl, by omega, HN, HOwn, HB⟩
        case measure => simp [intOf]; omega
    · have hk' : k = s.size := by omega
      subst hk'
      have hce := HC.out
      have e1 : (bytesOf s).take s.size = bytesOf s := List.take_of_length_le (by rw [bytesOf_len]; omega)
      have S3 := hide (fun v' W' (h1 : W'.ownsRow w.heap.size 9 1 v' (ts.length + 1) (ts.map Value.string ++ [.string (s.extract f s.size)])) (h2 : (wr.alloc (.cells #[.string (s.extract f s.size)] 9)).grownBy W' u5.ownBlock) =>
          (⟨v', ts ++ [s.extract f s.size], rfl, (by rw [List.length_append, List.map_append]; exact h1), (by have a1 := hce.done; have a2 := hce.cur; rw [e1] at a1 a2; unfold words; rw [List.map_append, a1, List.map_cons, List.map_nil, bytesOf_extract, e1, a2]), ownsRow_belowS (HOwn.out.alloc _) h2 (HB.out.alloc hsz _) (by simp; omega)⟩ : SplitEnd s w (.returned v') W'))
      have HO := hide (HOwn.out.alloc (.cells #[.string (s.extract f s.size)] 9))
      clear HC HOwn hce e1
      go_wp2_with (at_builtin; refine wpList_append_own _ rfl (.tmp 28) (.tmp 32) 51 rfl w.heap.size 9 i0 (.string ByteArray.empty) 1 16 Tryd.underlying51 hi hz0 hz1 hz2 rfl (by decide) u5 ts.length _ rfl HO.out ⟨wr.heap.size, 0, none⟩ 1 1 [.string (s.extract f s.size)] rfl rfl (cell_one_new _ _ _) (by intro u hu; simp at hu; subst hu; rfl) (by unfold maxLen; omega) (by omega) (by simp; omega) ?_; intro v' W' r1 r2 _; have R := hide (S3.out v' W' r1 r2); clear r1 r2)
      go_ret
      exact R.out
def ReadS (ok : Bool) (r : List Int) (w : World) (e : Ending) (w' : World) : Prop :=
  ∃ a n c, e = .returned (.tuple #[.slice a n c, .bool ok]) ∧ n ≤ 200 ∧ Row w' a n r ∧ Below w.heap.size w w'

theorem readS_no {p : Int} {bs : List Int} {w w' : World} (h : readOk p bs = false) (hb : Below w.heap.size w w') : ReadS (readOk p bs) (readR p bs) w (.returned (.tuple #[.slice none 0 0, .bool false])) w' := by
  refine ⟨none, 0, 0, by rw [h], by omega, ⟨?_, .inl rfl⟩, hb⟩
  unfold readR; rw [h]; rfl

theorem words_len (bs : List Int) : 1 ≤ (words bs).length ∧ (words bs).length ≤ bs.length + 1 := by
  have key : ∀ (post : List Int) (D : List (List Int)) (c : List Int), (post.foldl stepW (D, c)).1.length ≤ D.length + post.length := by
    intro post
    induction post with
    | nil => intro D c; simp
    | cons b post ih =>
      intro D c
      rw [List.foldl_cons]
      by_cases hb : b = 32
      · have := ih (D ++ [c]) []
        rw [show stepW (D, c) b = (D ++ [c], []) from by simp [stepW, hb]]
        simp at this ⊢; omega
      · have := ih D (c ++ [b])
        rw [show stepW (D, c) b = (D, c ++ [b]) from by simp [stepW, hb]]
        simp at this ⊢; omega
  have := key bs [] []
  unfold words
  simp at this ⊢
  exact this

def numsU (ts : List ByteArray) (k : Nat) : List Int := (ts.take k).map fun t => readW (bytesOf t)

theorem numsU_succ {ts : List ByteArray} {k : Nat} {t : ByteArray} (h : ts[k]? = some t) : (numsU ts (k + 1)).map (Value.int .i64) = (numsU ts k).map (Value.int .i64) ++ [.int .i64 (readW (bytesOf t))] := by
  unfold numsU; rw [List.take_add_one, h]; simp

theorem numsU_all (ts : List ByteArray) : numsU ts ts.length = (ts.map bytesOf).map readW := by
  unfold numsU; rw [List.take_length, List.map_map]; rfl

theorem ownsRow_below3 {B : Nat} {w w' : World} {v : Value} {n : Nat} {l : List Value} (hown : w.ownsRow B 3 1 v n l) (hg : w.grownBy w' v.ownBlock) {a : World} (h : Below B a w) (hC : B ≤ w.heap.size) : Below B a w' := by
  refine h.grown hg hC fun k hk => (hown.lt k hk).1

theorem ownsRow_row3 {B : Nat} {w : World} {v : Value} {n : Nat} {l : List Int} (hown : w.ownsRow B 3 1 v n (l.map (Value.int .i64))) : ∃ a c, v = .slice a n c ∧ Row w a n l := by
  have hl : l.length = n := by have := hown.1; simpa using this
  rcases hown.2 with ⟨rfl, rfl⟩ | ⟨g, cap, cur, rfl, hb, hh, hnc, _, hsz, ht⟩
  · exact ⟨none, 0, rfl, hl, .inl rfl⟩
  · refine ⟨_, cap, rfl, hl, .inr ⟨g, 0, rfl, (Array.getElem?_eq_some_iff.mp hh).1, fun i hi => ?_⟩⟩
    rw [cell_of_row w g (0 + i) _ _ _ hh, Nat.zero_add]
    have e1 : (cur.toList.take (n * 1))[i]? = some (.int .i64 (l.getD i 0)) := by
      rw [ht]; simp [List.getElem?_map, List.getElem?_eq_getElem (show i < l.length by omega)]
    rw [List.getElem?_take_of_lt (by omega)] at e1
    simpa using e1

theorem ownsRow_strs {B : Nat} {w : World} {v : Value} {ts : List ByteArray} (hown : w.ownsRow B 9 1 v ts.length (ts.map Value.string)) (h1 : 1 ≤ ts.length) : ∃ g c, v = .slice (some ⟨g, 0, none⟩) ts.length c ∧ g < w.heap.size ∧ ∀ i t, ts[i]? = some t → w.cell? ⟨g, i, none⟩ = some (.string t) := by
  rcases hown.2 with ⟨_, h0⟩ | ⟨g, cap, cur, rfl, hb, hh, hnc, _, hsz, ht⟩
  · omega
  · refine ⟨g, cap, rfl, (Array.getElem?_eq_some_iff.mp hh).1, fun i t hi => ?_⟩
    rw [cell_of_row w g i _ _ _ hh]
    have hlt : i < ts.length := (List.getElem?_eq_some_iff.mp hi).1
    have e1 : (cur.toList.take (ts.length * 1))[i]? = some (.string t) := by
      rw [ht, List.getElem?_map, hi]; rfl
    rw [List.getElem?_take_of_lt (by omega)] at e1
    simpa using e1

set_option maxHeartbeats 1000000 in
theorem specRead_any (p : Int) (s : ByteArray) (w : World) (hs : s.size ≤ 1048576) :
    Calls Tryd.prog 13 #[.int .i64 p, .string s] w fun e w' => ReadS (readOk p (bytesOf s)) (readR p (bytesOf s)) w e w' := by
  by_cases h100 : s.size ≤ 100
  · have hl100 : ¬ (100 : Int) < (s.size : Int) := by omega
    obtain ⟨i0, hi, hz0, hz1, hz2⟩ := info_parts Tryd.info3
    go_enter Tryd.func13, Tryd.ntmps13
    go_wp2_with fail
    refine (split_any s _ h100).mono ?_
    rintro e v1 ⟨sv, ts, rfl, hown, hw, hb⟩
    have hwl := words_len (bytesOf s)
    rw [← hw, List.length_map, bytesOf_len] at hwl
    obtain ⟨g, c, rfl, hg, hcell⟩ := ownsRow_strs hown (by omega)
    have HW := hide hw
    have HB1 := hide hb
    have HCELL := hide hcell
    clear hown hw hb hcell hl100
    go_wp2
    go_loopw [6, 15] (fun o i wr => ∃ k : Nat, k ≤ ts.length ∧ i = .int .i64 k ∧ Hid (wr.ownsRow v1.heap.size 3 1 o k ((numsU ts k).map (Value.int .i64))) ∧ Hid (Below v1.heap.size v1 wr)) (fun _ i _ => ts.length - (intOf i).toNat)
    case atStart => exact ⟨0, Nat.zero_le _, rfl, World.ownsRow_nil _ _ _ _, Below.refl _ _⟩
    case round =>
      obtain ⟨k, hk, rfl, HOwn, HB⟩ := hrel
      have hsz := HB.out.size
      by_cases hlt : k < ts.length
      · have hki : (k : Int) < (ts.length : Int) := by omega
        obtain ⟨t, ht⟩ : ∃ t, Hid (ts[k]? = some t) := ⟨_, List.getElem?_eq_getElem hlt⟩
        have hc : wr.cell? ⟨g, k, none⟩ = some (.string t) := (HB.out.cell (p := ⟨g, k, none⟩) hg).trans (HCELL.out k t ht.out)
        have HS := hide (numsU_succ ht.out)
        obtain ⟨y, hy⟩ : ∃ y, Hid (readW (bytesOf t) = y) := ⟨_, rfl⟩
        rw [hy.out] at HS
        go_wp2_with fail
        refine (readS_any t _).mono ?_
        rintro e v2 ⟨rfl, hv⟩
        rw [hy.out, hv]
        clear hv v2
        have S3 := hide (fun v' W' (h1 : W'.ownsRow v1.heap.size 3 1 v' (k + 1) ((numsU ts k).map (Value.int .i64) ++ [.int .i64 y])) (h2 : (wr.alloc (.cells #[.int .i64 y] 3)).grownBy W' u6.ownBlock) =>
          (⟨k + 1, by omega, by go_num, (by show World.ownsRow _ _ _ _ _ _ _; rw [HS.out]; exact h1), ownsRow_below3 (HOwn.out.alloc _) h2 (HB.out.alloc hsz _) (by simp; omega)⟩ :
            ∃ k1 : Nat, k1 ≤ ts.length ∧ Value.int .i64 ((k : Int) + 1) = .int .i64 k1 ∧ Hid (W'.ownsRow v1.heap.size 3 1 v' k1 ((numsU ts k1).map (Value.int .i64))) ∧ Hid (Below v1.heap.size v1 W')))
        have HO := hide (HOwn.out.alloc (.cells #[.int .i64 y] 3))
        clear HOwn HS
        go_wp2_with (at_builtin; refine wpList_append_own _ rfl (.tmp 19) (.tmp 22) 24 rfl v1.heap.size 3 i0 (.int .i64 0) 1 8 Tryd.underlying24 hi hz0 hz1 hz2 rfl (by decide) u6 k _ rfl HO.out ⟨wr.heap.size, 0, none⟩ 1 1 [.int .i64 y] rfl rfl (cell_one_new _ _ _) (by intro u hu; simp at hu; subst hu; rfl) (by unfold maxLen; omega) (by omega) (by simp; omega) ?_; intro v' W' r1 r2 _; have R := hide (S3.out v' W' r1 r2); clear r1 r2)
        go_roundw
        case rel => exact R.out
        case measure => simp [intOf]; omega
      · have hk' : k = ts.length := by omega
        subst hk'
        obtain ⟨a3, c3, rfl, hr3⟩ := ownsRow_row3 HOwn.out
        rw [numsU_all, HW.out] at hr3
        have hok : readOk p (bytesOf s) = goodB p ((words (bytesOf s)).map readW) := by unfold readOk; rw [bytesOf_len]; simp [h100]
        have HC := hide (goodS_any p a3 ts.length c3 _ wr hr3 (by omega))
        rw [← hok] at HC
        have HBw := hide (HB1.out.trans (HB.out.mono HB1.out.size))
        have HR := hide hr3
        clear hr3 hok HOwn hi hz0 hz1 hz2
        by_cases hg2 : readOk p (bytesOf s) = true
        · have HY : Hid (ReadS (readOk p (bytesOf s)) (readR p (bytesOf s)) w (.returned (.tuple #[.slice a3 ts.length c3, .bool true])) wr) := ⟨a3, ts.length, c3, by rw [hg2], by omega, by unfold readR; rw [hg2]; exact HR.out, HBw.out⟩
          go_wp2_with (go_at_call 21; refine HC.out.mono ?_; rintro e w3 ⟨rfl, hv⟩; rw [hv]; clear hv)
          go_ret2
          exact HY.out
        · have hg3 : readOk p (bytesOf s) = false := by simpa using hg2
          have HY := hide (readS_no (w := w) hg3 HBw.out)
          clear hg2
          go_wp2_with (go_at_call 21; refine HC.out.mono ?_; rintro e w3 ⟨rfl, hv⟩; rw [hv]; clear hv)
          go_ret2
          exact HY.out
  · have HF := hide (readS_no (p := p) (bs := bytesOf s) (w := w) (w' := w) (by unfold readOk; rw [bytesOf_len]; simp [h100]) (Below.refl _ _))
    have h1 : (100 : Int) < (s.size : Int) := by omega
    go_enter Tryd.func13, Tryd.ntmps13
    go_wp2
    go_ret2
    exact HF.out
end Go.Proofs.YtkpmpnbeedapgaaDoor
