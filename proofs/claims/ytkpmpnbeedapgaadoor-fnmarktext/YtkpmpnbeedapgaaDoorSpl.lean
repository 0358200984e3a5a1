/- What spoilt answers: some text of at most two bytes more, whatever the bytes; nothing that was there is written but the cursor. -/
import Derived.Test.YtkpmpnbeedapgaaDoorInv
import Derived.Test.YtkpmpnbeedapgaaDoorDrw
namespace Go.Proofs.YtkpmpnbeedapgaaDoor
open Go.RowKit Go.Lib

set_option maxHeartbeats 400000 in
theorem pick1_any (m : Nat) (bc : Nat) (ca : Option Addr) (cn cc p : Nat) (bs : List Int) (w : World) (h : Cur w bc ca cn cc p) (hr : RowB w ca cn bs) (hp : p ≤ 1000000) (hn : cn ≤ 1048576) (h2 : 1 ≤ m) (h200 : m ≤ 200) :
    Calls Tryd.prog 37 #[.pointer (some ⟨bc, 0, none⟩), .int .i64 (m : Int)] w fun e w' => ∃ r p' : Nat, e = .returned (.int .i64 (r : Int)) ∧ r < m ∧ p' ≤ p + 1 ∧ Cur w' bc ca cn cc p' ∧ OnlyC bc w w' := by
  by_cases h1 : m = 1
  · have hm1 : (m : Int) ≤ 1 := by omega
    have HE := hide (⟨0, p, rfl, by omega, by omega, h, OnlyC.refl _ _⟩ : ∃ r p' : Nat, Ending.returned (.int .i64 0) = .returned (.int .i64 (r : Int)) ∧ r < m ∧ p' ≤ p + 1 ∧ Cur w bc ca cn cc p' ∧ OnlyC bc w w)
    clear h hr h1
    go_enter Tryd.func37, Tryd.ntmps37
    go_wp2
    go_ret
    exact HE.out
  · refine (pick_any m bc ca cn cc p bs w h hr hp hn (by omega) h200).mono ?_
    rintro e w' ⟨r, rfl, h3, h4, h5⟩
    exact ⟨r, p + 1, rfl, h3, Nat.le_refl _, h4, h5⟩

theorem conv_byte (x : UInt8) (W : World) (b : Nat) (hc : W.cell? ⟨b, 0, none⟩ = some (.int .u8 (x.toNat : Int))) :
    (convert 22 9 (.slice (some ⟨b, 0, none⟩) 1 1)).run Tryd.prog W = .ok (.string ⟨#[x]⟩) W := by
  refine run_convert_bytes_back (P := Tryd.prog) W 22 9 5 ⟨b, 0, none⟩ 1 [x] Tryd.underlying22 Tryd.underlying5 Tryd.underlying9 ?_
  intro j hj
  obtain rfl : j = 0 := by simp at hj; omega
  show W.cell? ((⟨b, 0, none⟩ : Addr).add 0) = _
  simpa [Addr.add] using hc

/-- What holds while a text is spoilt. -/
structure SpSt (w v : World) (bc : Nat) (ca : Option Addr) (cn cc p : Nat) (bs : List Int) : Prop where
  cur : Cur v bc ca cn cc p
  bytes : RowB v ca cn bs
  kept : Kept bc w.heap.size w v

theorem SpSt.only {w v v' : World} {bc : Nat} {ca : Option Addr} {cn cc p p' : Nat} {bs : List Int} (h : SpSt w v bc ca cn cc p bs) (ho : OnlyC bc v v') (hc : Cur v' bc ca cn cc p') (hap : Apart ca cn bc) : SpSt w v' bc ca cn cc p' bs :=
  ⟨hc, h.bytes.keep ho hap, h.kept.trans (Kept.of_only ho)⟩
theorem SpSt.alloc {w v : World} {bc : Nat} {ca : Option Addr} {cn cc p : Nat} {bs : List Int} (h : SpSt w v bc ca cn cc p bs) (ob : Obj) (hap : Apart ca cn bc) : SpSt w (v.alloc ob) bc ca cn cc p bs := by
  have hb := (Below.refl v.heap.size v).alloc (Nat.le_refl _) ob
  exact ⟨h.cur.below hb h.cur.lt, h.bytes.kept (Kept.of_below hb) hap, h.kept.trans ((Kept.of_below hb).mono h.kept.size)⟩
theorem SpSt.drewN {w v : World} {bc : Nat} {ca : Option Addr} {cn cc p : Nat} {bs : List Int} (h : SpSt w v bc ca cn cc p bs) (q : Nat) : SpSt w (v.drewN q) bc ca cn cc p bs :=
  ⟨h.cur, h.bytes, ⟨h.kept.os, h.kept.tape, h.kept.output, h.kept.size, h.kept.block⟩⟩

def SpoilEnd (bc : Nat) (ca : Option Addr) (cn cc p : Nat) (bs : List Int) (w : World) (e : Ending) (w' : World) : Prop :=
  ∃ (t : ByteArray) (p' : Nat), e = .returned (.string t) ∧ t.size ≤ 200 ∧ p' ≤ p + 20 ∧ SpSt w w' bc ca cn cc p' bs

set_option maxHeartbeats 4000000 in
theorem spoilt_any (t0 wt : ByteArray) (bc : Nat) (ca : Option Addr) (cn cc p : Nat) (bs : List Int) (w : World) (h : Cur w bc ca cn cc p) (hr : RowB w ca cn bs) (hap : Apart ca cn bc) (hp : p ≤ 900000) (hn : cn ≤ 1048576) (ht0 : t0.size ≤ 100) (hw2 : 2 ≤ wt.size) (hw200 : wt.size ≤ 200) :
    Calls Tryd.prog 28 #[.pointer (some ⟨bc, 0, none⟩), .string t0, .string wt] w fun e w' => SpoilEnd bc ca cn cc p bs w e w' := by
  have S0 := hide (SpSt.mk (w := w) h hr (Kept.refl _ _ _))
  clear h hr
  go_enter Tryd.func28, Tryd.ntmps28
  go_wp2_with fail
  refine (pick_any 2 bc ca cn cc p bs _ S0.out.cur S0.out.bytes (by omega) hn (by omega) (by omega)).mono ?_
  rintro e v1 ⟨r0, rfl, hr0, hcur, ho⟩
  have S1 := hide (S0.out.only ho hcur hap)
  have hr0' : (r0 : Int) < 2 := by omega
  clear hcur ho S0
  go_wp2
  go_loopw [1, 7] (fun tt tn wr => ∃ (t : ByteArray) (n q : Nat), tt = .string t ∧ tn = .int .i64 n ∧ n ≤ 2 ∧ t.size ≤ 100 + (2 - n) ∧ q ≤ p + 1 + 3 * (2 - n) ∧ Hid (SpSt w wr bc ca cn cc q bs)) (fun _ tn _ => (intOf tn).toNat)
  case atStart => exact ⟨t0, 1 + r0, p + 1, rfl, by go_num, by omega, by omega, by omega, S1⟩
  case round =>
    obtain ⟨t, n, q, rfl, rfl, hn2, hts, hq, S2⟩ := hrel
    clear S1
    by_cases hn0 : n = 0
    · have hn0' : ¬ (0 : Int) < (n : Int) := by omega
      have HE := hide (⟨t, q, rfl, by omega, by omega, S2.out⟩ : SpoilEnd bc ca cn cc p bs w (.returned (.string t)) wr)
      clear hn0
      go_wp2
      go_ret
      exact HE.out
    · have hn1 : (0 : Int) < (n : Int) := by omega
      by_cases ht : t.size = 0
      · have ht' : ¬ (0 : Int) < (t.size : Int) := by omega
        have HE := hide (⟨t, q, rfl, by omega, by omega, S2.out⟩ : SpoilEnd bc ca cn cc p bs w (.returned (.string t)) wr)
        clear ht
        go_wp2
        go_ret
        exact HE.out
      · have ht' : (0 : Int) < (t.size : Int) := by omega
        go_wp2_with fail
        refine (pick1_any t.size bc ca cn cc q bs _ S2.out.cur S2.out.bytes (by omega) hn (by omega) (by omega)).mono ?_
        rintro e v2 ⟨i, q2, rfl, hi, hq2, hcur, ho⟩
        have S3 := hide (S2.out.only ho hcur hap)
        clear hcur ho S2
        go_wp2_with fail
        refine (pick_any wt.size bc ca cn cc q2 bs _ S3.out.cur S3.out.bytes (by omega) hn (by omega) (by omega)).mono ?_
        rintro e v3 ⟨r2, rfl, hr2, hcur, ho⟩
        have S4 := hide (S3.out.only ho hcur hap)
        clear hcur ho S3
        have hr2' : (r2 : Int) < (wt.size : Int) := by omega
        have hcv := conv_byte (wt[r2]'hr2)
        go_wp2_with fail
        have S5 := hide (S4.out.alloc (.cells #[.int .u8 ((wt[r2]'hr2).toNat : Int)] 5) hap)
        clear S4 hcv
        refine (pick_any 3 bc ca cn cc (q2 + 1) bs _ S5.out.cur S5.out.bytes (by omega) hn (by omega) (by omega)).mono ?_
        rintro e v4 ⟨r3, rfl, hr3, hcur, ho⟩
        have S6 := hide (S5.out.only ho hcur hap)
        clear hcur ho S5
        generalize wt[r2]'hr2 = x
        have hii : (i : Int) < (t.size : Int) := by omega
        have sz1 : (t.extract 0 i).size = i := by rw [ByteArray.size_extract]; omega
        have sz2 : (t.extract i t.size).size = t.size - i := by rw [ByteArray.size_extract]; omega
        have sz3 : (t.extract (i + 1) t.size).size = t.size - (i + 1) := by rw [ByteArray.size_extract]; omega
        have szx : (⟨#[x]⟩ : ByteArray).size = 1 := rfl
        obtain rfl | rfl | rfl : r3 = 0 ∨ r3 = 1 ∨ r3 = 2 := by omega
        · have a1 := add_str (t.extract 0 i) ⟨#[x]⟩ (by omega)
          have a2 := add_str (t.extract 0 i ++ ⟨#[x]⟩) (t.extract i t.size) (by rw [ByteArray.size_append]; omega)
          go_wp2
          go_quiet (fail)
          go_wp2
          go_roundw
          case rel => exact ⟨t.extract 0 i ++ ⟨#[x]⟩ ++ t.extract i t.size, n - 1, q2 + 1 + 1, rfl, by go_num, by omega, by rw [ByteArray.size_append, ByteArray.size_append]; omega, by omega, S6.out.drewN _⟩
          case measure => simp [intOf]; omega
        · have a1 := add_str (t.extract 0 i) ⟨#[x]⟩ (by omega)
          have a2 := add_str (t.extract 0 i ++ ⟨#[x]⟩) (t.extract (i + 1) t.size) (by rw [ByteArray.size_append]; omega)
          go_wp2
          go_quiet (fail)
          go_wp2
          go_roundw
          case rel => exact ⟨t.extract 0 i ++ ⟨#[x]⟩ ++ t.extract (i + 1) t.size, n - 1, q2 + 1 + 1, rfl, by go_num, by omega, by rw [ByteArray.size_append, ByteArray.size_append]; omega, by omega, S6.out.drewN _⟩
          case measure => simp [intOf]; omega
        · have a1 := add_str (t.extract 0 i) (t.extract (i + 1) t.size) (by omega)
          go_wp2
          go_quiet (fail)
          go_wp2
          go_roundw
          case rel => exact ⟨t.extract 0 i ++ t.extract (i + 1) t.size, n - 1, q2 + 1 + 1, rfl, by go_num, by omega, by rw [ByteArray.size_append]; omega, by omega, S6.out.drewN _⟩
          case measure => simp [intOf]; omega
end Go.Proofs.YtkpmpnbeedapgaaDoor
