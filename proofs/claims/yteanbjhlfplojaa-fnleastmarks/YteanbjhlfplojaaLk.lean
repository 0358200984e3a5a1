/- The program's LeastMarks, walked. -/
import Derived.Test.YteanbjhlfplojaaLj
namespace Go.Proofs.Yteanbjhlfplojaa
open Go.RowKit Go.Sort Go.Shelf
set_option maxRecDepth 10000

theorem there_made (w : World) (z : Array Value) (n : Nat) (T : TypeId) : (w.alloc (.cells (madeCells z n) T)).there w.heap.size 0 n :=
  there_of_row (heap_alloc_new w _) (by rw [size_madeCells]; omega)

theorem below_store {D : Nat} {a w : World} (h : Below D a w) {B : Nat} (hB : D ≤ B) (o : Nat) (vs : List Value) : Below D a (w.setCells B o vs) := below_setCells h B o hB vs

/-- What is there while the marks are packed. -/
structure PkSt (w v : World) (B m k n : Nat) (p : Int) (L : List (List Int)) : Prop where
  all : AllT v B m k n L
  good : ∀ j, j < k → goodB p (L.getD j []) = true
  bel : Below w.heap.size w v
  hB : w.heap.size ≤ B

theorem PkSt.grow {w v v' : World} {B m k n : Nat} {p : Int} {L : List (List Int)} (h : PkSt w v B m k n p L) (hb : Below v.heap.size v v') : PkSt w v' B m k n p L :=
  ⟨h.all.grow hb, h.good, h.bel.trans (hb.mono h.bel.size), h.hB⟩

theorem PkSt.step {w v : World} {B m k n : Nat} {p : Int} {L : List (List Int)} (h : PkSt w v B m k n p L) (hk : k < m) {t : List Int} (ht : L.getD k [] = t) (hg : goodB p t = true) : PkSt w (v.setCells B (k * 16) (packOf t n).toList) B m (k + 1) n p L := by
  refine ⟨h.all.step hk ht, fun j hj => ?_, below_setCells h.bel B _ h.hB _, h.hB⟩
  by_cases e : j = k
  · subst e; rw [ht]; exact hg
  · exact h.good j (by omega)

theorem ljEnd_yes {p : Int} {L K : List (List Int)} {w w' : World} {B q : Nat} (hok : okL p L = true) (hK : K = leastR p L) (hq : K.length = q) (hp : PartL w' B q q 30 K) (hB : w.heap.size ≤ B) (hb : Below w.heap.size w w') :
    LjEnd (okL p L) (leastR p L) w (.returned (.tuple #[.slice (some ⟨B, 0, none⟩) q q, .bool true])) w' := by
  subst hq
  rw [← hK, hok]
  exact ⟨_, B, w'.heap.size, _, rfl, .inr ⟨rfl, hp.bound⟩, hB, Nat.le_refl _, hb, Nat.le_refl _⟩

theorem PartL.first {w : World} {q : Nat} {z : Array Value} {K : List (List Int)} : PartL (w.alloc (.cells (madeCells z q) 30)) w.heap.size q 0 30 K :=
  ⟨_, fun _ => 0, heap_alloc_new _ _, by rw [size_madeCells], fun j hj => absurd hj (by omega), fun i j _ hj => absurd hj (by omega)⟩

theorem listT_any (t : List Int) (n : Nat) (W : World) (hn : n ≤ 16) (hg : goodB n t = true) :
    Calls Try.prog 26 #[.agg (packOf t n), .int .i64 (n : Int)] W fun e w' => ∃ b0, e = .returned (.slice (some ⟨b0, 0, none⟩) n n) ∧ W.heap.size ≤ b0 ∧ w'.heap[b0]? = some (.cells (cellsOf t) 3 (0, 0)) ∧ Below W.heap.size W w' := by
  refine (list_any (fOf t n) n W hn (good_small hg n)).mono ?_
  rintro e w' ⟨rfl, rfl⟩
  have hl : t.length = n := by have := good_len hg; omega
  refine ⟨_, rfl, by omega, ?_, ((Below.refl _ _).alloc (Nat.le_refl _) _).alloc (by simp) _⟩
  rw [listF_of hl]
  have := heap_alloc_new (W.alloc (.cells (tokF (fOf t n)) 50)) (.cells (cellsOf t) 3)
  simpa using this

set_option maxHeartbeats 400000 in
theorem leastI_any (p : Int) (a : Option Addr) (m c : Nat) (L : List (List Int)) (w : World) (h : Lists w a m L) (hs : sizeN m L ≤ 1048576) :
    Calls Try.prog 7 #[.int .i64 p, .slice a m c] w fun e w' => LjEnd (okL p L) (leastR p L) w e w' := by
  have hm := h.1
  have hm20 : m ≤ 1048576 := by unfold sizeN at hs; omega
  cases hp : inB p 1 16
  · have HG := hide (ljEnd_no (okL_no1 (L := L) hp) (Below.refl w.heap.size w))
    clear h hs
    go_enter Try.func7, Try.ntmps7
    go_wp2_with (go_at_call 23; refine (goodPlaces_any _ _).mono ?_; rintro e w' ⟨rfl, rfl⟩)
    go_ret2
    exact HG.out
  by_cases h4 : m ≤ 400
  rotate_left
  · have HG := hide (ljEnd_no (okL_no2 (p := p) (L := L) (by omega)) (Below.refl w.heap.size w))
    clear h hs
    go_enter Try.func7, Try.ntmps7
    go_wp2_with (go_at_call 23; refine (goodPlaces_any _ _).mono ?_; rintro e w' ⟨rfl, rfl⟩)
    go_ret2
    exact HG.out
  obtain ⟨n, hn⟩ : ∃ n : Nat, p = (n : Int) := ⟨p.toNat, by simp [inB] at hp; omega⟩
  subst hn
  have hn16 : n ≤ 16 := by simp [inB] at hp; omega
  have HP := hide hp
  have HL := hide h
  have HM := hide hm
  have HS := hide hs
  have hmk := run_make_many (P := Try.prog) 48 50 _ 16 16 Try.underlying48 Try.infoT .i64 .i64 m (by omega) (by omega)
  simp only [Value.cells] at hmk
  clear h hm hs
  go_enter Try.func7, Try.ntmps7
  go_wp2_with (go_at_call 23; refine (goodPlaces_any _ _).mono ?_; rintro e w' ⟨rfl, hw'⟩; have hw2 := hw'.symm; subst hw2)
  go_loopw [28] (fun i wr => ∃ k : Nat, k ≤ m ∧ i = .int .i64 k ∧ Hid (PkSt w wr w.heap.size m k n n L)) (fun i _ => m - (intOf i).toNat)
  case atStart => exact ⟨0, Nat.zero_le _, rfl, ⟨by simp, there_made _ _ _ _, fun j hj => absurd hj (by omega)⟩, fun j hj => absurd hj (by omega), (Below.refl _ _).alloc (Nat.le_refl _) _, Nat.le_refl _⟩
  case round =>
    obtain ⟨k, hk, rfl, st⟩ := hrel
    clear hmk hp
    by_cases hlt : k < m
    · obtain ⟨b, off, a0, n0, c0, rfl, hb, hc0, m0, r0⟩ := (HL.out.below st.out.bel).at hlt
      have hl0 := len_le L k
      have hs' : m + sizeL L ≤ 1048576 := HS.out
      obtain ⟨t, ht⟩ : ∃ x, Hid (L.getD k [] = x) := ⟨_, rfl⟩
      rw [ht.out] at r0 hl0
      have q0 : n0 ≤ 1048576 := by have := r0.1; omega
      have HT := hide (tokens_any n a0 n0 c0 t wr r0 q0)
      have R0 := hide r0.1
      clear r0 hl0 q0 hs'
      go_wp2_with fail
      refine HT.out.mono ?_
      rintro e w1 ⟨m', rfl, hm', hb1⟩
      have hg0 := heap_alloc_new w1 (.cells #[.int .u8 0, .int .u8 0, .int .u8 0, .int .u8 0, .int .u8 0, .int .u8 0, .int .u8 0, .int .u8 0, .int .u8 0, .int .u8 0, .int .u8 0, .int .u8 0, .int .u8 0, .int .u8 0, .int .u8 0, .int .u8 0] 50)
      cases hgd : goodB n t
      · have HE := hide (ljEnd_no (okL_no3 (p := n) (L := L) (k := k) (by have := HM.out; omega) (by rw [ht.out]; exact hgd)) (st.out.bel.trans ((hb1.trans ((below_box w1 (packOf t m') (.cells #[.int .u8 0, .int .u8 0, .int .u8 0, .int .u8 0, .int .u8 0, .int .u8 0, .int .u8 0, .int .u8 0, .int .u8 0, .int .u8 0, .int .u8 0, .int .u8 0, .int .u8 0, .int .u8 0, .int .u8 0, .int .u8 0] 50)).mono hb1.size)).mono st.out.bel.size)))
        clear hb1 HT st hgd hc0
        go_wp2_with (refine wpList_store_row rfl 50 (.tmp 9) _ rfl _ _ rfl rfl 50 _ hg0 (by rw [packOf_size]; exact Try.size50) (by rw [packOf_size]; rfl) (packOf_one _ _) ?_)
        go_ret2
        exact HE.out
      have e1 := hm'.out hgd
      have e2 := good_len hgd
      have e3 := R0.out
      obtain rfl : m' = n := by omega
      have h9 := setRow_same hg0 (packOf t m')
      have ST := hide (st.out.grow (hb1.trans ((below_box w1 (packOf t m') (.cells #[.int .u8 0, .int .u8 0, .int .u8 0, .int .u8 0, .int .u8 0, .int .u8 0, .int .u8 0, .int .u8 0, .int .u8 0, .int .u8 0, .int .u8 0, .int .u8 0, .int .u8 0, .int .u8 0, .int .u8 0, .int .u8 0] 50)).mono hb1.size)))
      have hth := there_part ST.out.all.th (show k * 16 + (packOf t m').size ≤ m * 16 by rw [packOf_size]; omega)
      have ST2 := hide (ST.out.step hlt ht.out hgd)
      clear hb1 HT st hgd hc0 e1 e2 e3 hm' ST
      go_wp2_with (first
        | (show wpList _ _ _ (⟨none, .store 50 (.tmp 44) (.tmp 43), _, _, _, _⟩ :: _) _ _); refine wpList_store_mid rfl 50 (.tmp 44) (.tmp 43) rfl _ _ (packOf t m') rfl rfl hth (by rw [packOf_size]; exact Try.size50) (packOf_one _ _) ?_
        | (show wpList _ _ _ (⟨none, .store 50 (.tmp 9) (.tmp 37), _, _, _, _⟩ :: _) _ _); refine wpList_store_row rfl 50 (.tmp 9) _ rfl _ _ rfl rfl 50 _ hg0 (by rw [packOf_size]; exact Try.size50) (by rw [packOf_size]; rfl) (packOf_one _ _) ?_
        | (show wpList _ _ _ (⟨_, .load 50 (.tmp 9), _, _, _, _⟩ :: _) _ _); refine wpList_load_row rfl 50 (.tmp 9) rfl _ rfl 50 (packOf t m') (0, 0) _ h9 Try.underlying50 rfl (by rw [packOf_size]; exact Try.size50) ?_)
      go_roundw
      case rel => exact ⟨k + 1, by omega, by go_num, ST2⟩
      case measure => simp [intOf]; omega
    · have hk' : k = m := by omega
      subst hk'
      have HOK : Hid (okL n L = true) := okL_yes HP.out (by have := HM.out; omega) fun j hj => st.out.good j (by have := HM.out; omega)
      have HLE := hide (least_any n w.heap.size k k hn16 L wr st.out.all.lt (AllT.holds (by have := st.out.all; rw [← HM.out] at this; exact this)) HM.out h4)
      have HB1 := hide st.out.bel
      clear st
      go_wp2_with fail
      refine HLE.out.mono ?_
      rintro e w2 ⟨ds', al, q, cl, rfl, hlen, hmem, hpw, hq, hqL, hrow, hbel⟩
      have HK := hide (least_of HOK.out (show n = (n : Int).toNat by simp) hn16 hmem hpw)
      have HGD : Hid (∀ x ∈ keepL n ds', goodB n x = true) := fun x hx => okL_all HOK.out x ((hmem x).mp (by have := keepL_mem (n := n) (D := ds') ds'.length (Nat.le_refl _); rw [List.take_length] at this; exact this x hx))
      obtain ⟨K, hK⟩ : ∃ K, Hid (keepL n ds' = K) := ⟨_, rfl⟩
      rw [hK.out] at HK HGD hq hrow
      have HB2 := hide (HB1.out.trans hbel)
      have HR := hide hrow
      have HQ := hide hq
      have hq4 : q ≤ 400 := by have := HM.out; omega
      clear hlen hmem hpw hq hqL hrow hbel HLE HB1
      have hmk := run_make_many (P := Try.prog) 24 30 _ 1 24 Try.underlying24 Try.info30 .i64 .i64 q (by omega) (by omega)
      simp only [Value.cells, Nat.mul_one] at hmk
      go_wp2_with fail
      go_loopw [53] (fun i wr => ∃ k : Nat, k ≤ q ∧ i = .int .i64 k ∧ Hid (PartL wr w2.heap.size q k 30 K) ∧ Hid (Below w2.heap.size w2 wr)) (fun i _ => q - (intOf i).toNat)
      case atStart => exact ⟨0, Nat.zero_le _, rfl, PartL.first, (Below.refl _ _).alloc (Nat.le_refl _) _⟩
      case round =>
        obtain ⟨j, hj, rfl, hp, hb⟩ := hrel
        clear hmk
        by_cases hjl : j < q
        rotate_left
        · have hj' : j = q := by omega
          subst hj'
          have HE := hide (ljEnd_yes HOK.out HK.out HQ.out hp.out HB2.out.size (HB2.out.trans (hb.out.mono HB2.out.size)))
          clear hp
          go_wp2_with fail
          go_ret2
          exact HE.out
        have hjl' : j < K.length := by have := HQ.out; omega
        obtain ⟨b, off, rfl, hbs, hr⟩ := (HR.out.grow hb.out).at hjl'
        have HGT := hide (HGD.out _ (getD_mem hjl'))
        obtain ⟨t, ht⟩ : ∃ x, Hid (K.getD j [] = x) := ⟨_, rfl⟩
        rw [ht.out] at hr HGT
        have hg0 := heap_alloc_new wr (.cells #[.int .u8 0, .int .u8 0, .int .u8 0, .int .u8 0, .int .u8 0, .int .u8 0, .int .u8 0, .int .u8 0, .int .u8 0, .int .u8 0, .int .u8 0, .int .u8 0, .int .u8 0, .int .u8 0, .int .u8 0, .int .u8 0] 50)
        have h14 := setRow_same hg0 (packOf t n)
        have HBX := hide (below_box wr (packOf t n) (.cells #[.int .u8 0, .int .u8 0, .int .u8 0, .int .u8 0, .int .u8 0, .int .u8 0, .int .u8 0, .int .u8 0, .int .u8 0, .int .u8 0, .int .u8 0, .int .u8 0, .int .u8 0, .int .u8 0, .int .u8 0, .int .u8 0] 50))
        have HT := hide (listT_any t n ((wr.alloc (.cells #[.int .u8 0, .int .u8 0, .int .u8 0, .int .u8 0, .int .u8 0, .int .u8 0, .int .u8 0, .int .u8 0, .int .u8 0, .int .u8 0, .int .u8 0, .int .u8 0, .int .u8 0, .int .u8 0, .int .u8 0, .int .u8 0] 50)).setRow wr.heap.size (packOf t n)) hn16 HGT.out)
        go_wp2_with (first
          | (show wpList _ _ _ (⟨_, .load 50 (.tmp 56), _, _, _, _⟩ :: _) _ _); refine wpList_load_tok rfl (.tmp 56) rfl _ _ rfl _ _ hr.out ?_
          | (show wpList _ _ _ (⟨none, .store 50 (.tmp 14) (.tmp 57), _, _, _, _⟩ :: _) _ _); refine wpList_store_row rfl 50 (.tmp 14) _ rfl _ _ rfl rfl 50 _ hg0 (by rw [packOf_size]; exact Try.size50) (by rw [packOf_size]; rfl) (packOf_one _ _) ?_
          | (show wpList _ _ _ (⟨_, .load 50 (.tmp 14), _, _, _, _⟩ :: _) _ _); refine wpList_load_row rfl 50 (.tmp 14) rfl _ rfl 50 (packOf t n) (0, 0) _ h14 Try.underlying50 rfl (by rw [packOf_size]; exact Try.size50) ?_)
        refine HT.out.mono ?_
        rintro e w4 ⟨b0, rfl, hb0, g0, hb4⟩
        have hbw := HBX.out.trans (hb4.mono HBX.out.size)
        have htl : t.length = n := by have := good_len HGT.out; omega
        have hst := hp.out.step1 hjl hbw (Nat.le_trans HBX.out.size hb0) g0 ht.out
        rw [htl] at hst
        have HP1 := hide hst
        have HB3 := hide ((hb.out.trans (hbw.mono hb.out.size)).setCell (p := ⟨w2.heap.size, j, none⟩) (Nat.le_refl _) (.slice (some ⟨b0, 0, none⟩) n n))
        obtain ⟨v0, hv0, hfr⟩ := (hp.out.grow hbw).spot hjl
        clear hb0 g0 hb4 hbw HBX hg0 h14 HT hr hp hst htl hbs
        go_wp2_with fail
        go_roundw
        case rel => exact ⟨j + 1, by omega, by go_num, HP1, HB3⟩
        case measure => simp [intOf]; omega
end Go.Proofs.Yteanbjhlfplojaa
