/- l1InOrder, walked. -/
import Derived.Test.YteanbjhlfplojaaLr
import Derived.Maps.AppendAt
namespace Go.Proofs.Yteanbjhlfplojaa
open Go.RowKit
set_option maxRecDepth 10000

def InEnd (n : Nat) (m : List Int) (O : List (List Int)) (w : World) (e : Ending) (w' : World) : Prop := ∃ a q c R, e = .returned (.slice a q c) ∧ Lists w' a q R ∧ Ins n m O R ∧ Below w.heap.size w w'

set_option maxHeartbeats 2000000 in
theorem inOrder_any (n : Nat) (al : Option Addr) (ql cl : Nat) (O : List (List Int)) (am : Option Addr) (cm : Nat) (m : List Int) (w : World) (hl : Lists w al ql O) (hO : ∀ x ∈ O, x.length = n) (hm : Row w am n m) (hs : SortL n O) (hn : n ≤ 16) (hq : ql ≤ 400) :
    Calls Try.prog 49 #[.slice al ql cl, .slice am n cm] w fun e w' => InEnd n m O w e w' := by
  obtain ⟨i0, hi, hz0, hz1, hz2⟩ := info_split Try.info30
  have HL := hide hl
  have HLE := hide hl.1
  have HO := hide hO
  have HM := hide hm
  have HS := hide hs
  have HI := hide (And.intro hi (And.intro hz0 (And.intro hz1 hz2)))
  clear hl hO hm hs hi hz0 hz1 hz2
  go_enter Try.func49, Try.ntmps49
  go_wp2_with fail
  go_loopw [5, 6, 12] (fun o pv i wr => ∃ (k q : Nat) (pb : Bool) (cs : List Value) (X : List (List Int)), k ≤ ql ∧ i = .int .i64 k ∧ pv = .bool pb ∧ q ≤ k + 1 ∧ Hid (SlSt w.heap.size w wr o q cs X n) ∧ Hid (InsUpto n m O k pb X)) (fun _ _ i _ => ql - (intOf i).toNat)
  case atStart => exact ⟨0, 0, false, [], [], Nat.zero_le _, rfl, rfl, by omega, ⟨World.ownsRow_nil _ _ _ _, fun j hj => absurd hj (by omega), rfl, Below.refl _ _, Nat.le_refl _⟩, InsUpto.first _ _ _⟩
  case round =>
    obtain ⟨k, q, pb, cs, X, hk, rfl, rfl, hqk, st, hi⟩ := hrel
    by_cases hlt : k < ql
    rotate_left
    · have hk' : k = ql := by omega
      subst hk'
      have hlo : w.heap.size ≤ wr.heap.size := st.out.low
      have HX := hide hi.out
      rw [← HLE.out] at HX
      cases pb
      · have ST3 := hide (st.out.grow (below_al wr (.cells #[.slice am n cm] 30)))
        obtain ⟨hi0, hz0, hz1, hz2⟩ := HI.out
        clear st
        go_wp2_with (at_builtin; refine wpList_append_own _ rfl (.tmp 39) (.tmp 41) 24 rfl w.heap.size 30 i0 _ 1 24 Try.underlying24 hi0 hz0 hz1 hz2 rfl (by decide) _ q _ rfl ST3.out.own ⟨wr.heap.size, 0, none⟩ 1 1 [.slice am n cm] rfl rfl (cell_one_new _ _ _) (by simp [Value.oneCell']) (by unfold maxLen; omega) (by omega) (by simp; omega) ?_; intro v' w3 r1 r2 _; have ST4 := hide (ST3.out.step HM.out r1 r2); clear r1 r2)
        obtain ⟨a', c', rfl, hls⟩ := ST4.out.lists hn rfl
        have HE : Hid (InEnd n m O w (.returned (.slice a' (q + 1) c')) w3) := ⟨a', q + 1, c', _, rfl, hls, HX.out.last, ST4.out.bel⟩
        clear ST4 hls
        go_wp2_with fail
        go_ret
        exact HE.out
      · obtain ⟨a', c', rfl, hls⟩ := st.out.lists hn rfl
        have HE : Hid (InEnd n m O w (.returned (.slice a' q c')) wr) := ⟨a', q, c', _, rfl, hls, HX.out.done, st.out.bel⟩
        clear st hls
        go_wp2_with fail
        go_ret
        exact HE.out
    have hlt' : k < O.length := by have := HLE.out; omega
    obtain ⟨b, off, a0, n0, c0, rfl, hb, hc0, m0, r0⟩ := (HL.out.below st.out.bel).at hlt
    obtain rfl : n0 = n := by have := HO.out _ (getD_mem hlt'); have := r0.1; omega
    have HR0 : Hid (Row w a0 n0 (O.getD k [])) := by
      obtain ⟨b', off', a', n', c', e1, hb', hc', _, r'⟩ := HL.out.at hlt
      simp only [Option.some.injEq, Addr.mk.injEq] at e1
      obtain ⟨rfl, rfl, _⟩ := e1
      rw [st.out.bel.cell hb'] at hc0
      rw [hc'] at hc0
      simp only [Option.some.injEq, Value.slice.injEq] at hc0
      obtain ⟨rfl, rfl, rfl⟩ := hc0
      exact r'
    have HC := hide (cmpS_any am a0 n0 cm c0 m (O.getD k []) wr (HM.out.below st.out.bel) r0 hn)
    obtain ⟨x, hx⟩ : ∃ x, Hid (O.getD k [] = x) := ⟨_, rfl⟩
    have hcd : cmpL n0 m (O.getD k []) = cmpN (getF m) (getF (O.getD k [])) n0 0 := rfl
    obtain ⟨z, hz⟩ : ∃ z, Hid (cmpL n0 m (O.getD k []) = z) := ⟨_, rfl⟩
    rw [← hcd, hz.out] at HC
    rw [hx.out] at HR0
    clear r0 m0 hcd
    go_wp2_with fail
    refine HC.out.mono ?_
    rintro e v1 ⟨rfl, qd, rfl⟩
    have ST1 := hide (st.out.grow (below_drewN' wr qd))
    generalize wr.drewN qd = v1 at *
    clear HC st
    have hlo : w.heap.size ≤ v1.heap.size := ST1.out.low
    obtain ⟨hi0, hz0, hz1, hz2⟩ := HI.out
    rcases Int.lt_trichotomy z 0 with hzz | hzz | hzz
    · have hze : (z == 0) = false := by simp; omega
      have hzd : decide (z = 0) = false := by simp; omega
      cases pb
      · have hqe : q ≤ k := by
          have h1 := hi.out
          unfold InsUpto at h1
          rw [if_neg (by decide)] at h1
          have := ST1.out.len
          rw [h1.1, List.length_take] at this
          omega
        have HX := hide (hi.out.put hlt' (by rw [hz.out]; exact hzz))
        rw [hx.out] at HX
        have STa := hide (ST1.out.grow (below_al v1 (.cells #[.slice am n0 cm] 30)))
        clear hc0 ST1 hi
        go_wp2_with (first
          | ((show wpList _ _ _ (⟨_, .call ⟨_, #[.tmp 28, .tmp 30], _⟩, _, _, _, _⟩ :: _) _ _); at_builtin; refine wpList_append_own _ rfl (.tmp 28) (.tmp 30) 24 rfl w.heap.size 30 i0 _ 1 24 Try.underlying24 hi0 hz0 hz1 hz2 rfl (by decide) _ _ _ rfl STa.out.own ⟨v1.heap.size, 0, none⟩ 1 1 [.slice am n0 cm] rfl rfl (cell_one_new _ _ _) (by simp [Value.oneCell']) (by unfold maxLen; omega) (by omega) (by simp; omega) ?_; intro v' w2 r1 r2 _; have STb := hide (STa.out.step HM.out r1 r2); clear r1 r2; have hlo2 : w.heap.size ≤ w2.heap.size := STb.out.low; have STc := hide (STb.out.grow (below_al w2 (.cells #[.slice a0 n0 c0] 30))))
          | ((show wpList _ _ _ (⟨_, .call ⟨_, #[.tmp 32, .tmp 34], _⟩, _, _, _, _⟩ :: _) _ _); at_builtin; refine wpList_append_own _ rfl (.tmp 32) (.tmp 34) 24 rfl w.heap.size 30 i0 _ 1 24 Try.underlying24 hi0 hz0 hz1 hz2 rfl (by decide) _ _ _ rfl STc.out.own ⟨w2.heap.size, 0, none⟩ 1 1 [.slice a0 n0 c0] rfl rfl (cell_one_new _ _ _) (by simp [Value.oneCell']) (by unfold maxLen; omega) (by omega) (by simp; omega) ?_; intro v' w3 r1 r2 _; have ST3 := hide (STc.out.step HR0.out r1 r2); clear r1 r2))
        go_roundw
        case rel => exact ⟨k + 1, _, true, _, _, by omega, by go_num, rfl, by omega, ST3, HX⟩
        case measure => simp [intOf]; omega
      · have HX := hide (hi.out.past hlt' (by rw [hz.out]; exact hzz))
        rw [hx.out] at HX
        have ST2 := hide (ST1.out.grow (below_al v1 (.cells #[.slice a0 n0 c0] 30)))
        clear hc0 ST1 hi
        go_wp2_with ((show wpList _ _ _ (⟨_, .call ⟨_, #[.tmp 32, .tmp 34], _⟩, _, _, _, _⟩ :: _) _ _); at_builtin; refine wpList_append_own _ rfl (.tmp 32) (.tmp 34) 24 rfl w.heap.size 30 i0 _ 1 24 Try.underlying24 hi0 hz0 hz1 hz2 rfl (by decide) _ _ _ rfl ST2.out.own ⟨v1.heap.size, 0, none⟩ 1 1 [.slice a0 n0 c0] rfl rfl (cell_one_new _ _ _) (by simp [Value.oneCell']) (by unfold maxLen; omega) (by omega) (by simp; omega) ?_; intro v' w3 r1 r2 _; have ST3 := hide (ST2.out.step HR0.out r1 r2); clear r1 r2)
        go_roundw
        case rel => exact ⟨k + 1, _, true, _, _, by omega, by go_num, rfl, by omega, ST3, HX⟩
        case measure => simp [intOf]; omega
    · subst hzz
      have HE : Hid (InEnd n0 m O w (.returned (.slice (some ⟨b, off, none⟩) ql cl)) v1) := ⟨_, ql, cl, O, rfl, HL.out.below ST1.out.bel, .inl ⟨rfl, _, getD_mem hlt', hz.out⟩, ST1.out.bel⟩
      clear hc0 ST1 hi
      go_wp2_with fail
      go_ret
      exact HE.out
    · have hze : (z == 0) = false := by simp; omega
      have hzd : decide (z = 0) = false := by simp; omega
      cases pb
      · have HX := hide (hi.out.ahead hlt' (by rw [hz.out]; exact hzz))
        rw [hx.out] at HX
        have ST2 := hide (ST1.out.grow (below_al v1 (.cells #[.slice a0 n0 c0] 30)))
        clear hc0 ST1 hi
        go_wp2_with ((show wpList _ _ _ (⟨_, .call ⟨_, #[.tmp 32, .tmp 34], _⟩, _, _, _, _⟩ :: _) _ _); at_builtin; refine wpList_append_own _ rfl (.tmp 32) (.tmp 34) 24 rfl w.heap.size 30 i0 _ 1 24 Try.underlying24 hi0 hz0 hz1 hz2 rfl (by decide) _ _ _ rfl ST2.out.own ⟨v1.heap.size, 0, none⟩ 1 1 [.slice a0 n0 c0] rfl rfl (cell_one_new _ _ _) (by simp [Value.oneCell']) (by unfold maxLen; omega) (by omega) (by simp; omega) ?_; intro v' w3 r1 r2 _; have ST3 := hide (ST2.out.step HR0.out r1 r2); clear r1 r2)
        go_roundw
        case rel => exact ⟨k + 1, _, false, _, _, by omega, by go_num, rfl, by omega, ST3, HX⟩
        case measure => simp [intOf]; omega
      · exfalso
        have := hi.out.sure HS.out hlt'
        rw [hz.out] at this
        omega
end Go.Proofs.Yteanbjhlfplojaa
