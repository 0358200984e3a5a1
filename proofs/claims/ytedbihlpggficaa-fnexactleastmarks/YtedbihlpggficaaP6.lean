/- Contracts that the proof stands on, one behind the other. -/
import Derived.Test.YtedbihlpggficaaP5
import Derived.Maps.AppendAt
/- The program's LeastMarks, walked. -/
namespace Go.Proofs.Ytedbihlpggficaa
open Go.RowKit Go.Sort Go.Shelf
set_option maxRecDepth 10000

theorem there_made (w : World) (z : Array Value) (n : Nat) (T : TypeId) : (w.alloc (.cells (madeCells z n) T)).there w.heap.size 0 n :=
  there_of_row (heap_alloc_new w _) (by rw [size_madeCells]; omega)

theorem below_store {D : Nat} {a w : World} (h : Below D a w) {B : Nat} (hB : D ≤ B) (o : Nat) (vs : List Value) : Below D a (w.setCells B o vs) := below_setCells h B o hB vs

/-- What is there while the marks are packed. -/
structure PkSt (w v : World) (B m k n : Nat) (p : Int) (L : List (List Int)) : Prop where
  all : AllT v B m k n L
  good : ∀ j, j < k → goodB p (L.getD j []) = true
  bel : Below w.heap.size w v
  hB : w.heap.size ≤ B

theorem PkSt.grow {w v v' : World} {B m k n : Nat} {p : Int} {L : List (List Int)} (h : PkSt w v B m k n p L) (hb : Below v.heap.size v v') : PkSt w v' B m k n p L :=
  ⟨h.all.grow hb, h.good, h.bel.trans (hb.mono h.bel.size), h.hB⟩

theorem PkSt.step {w v : World} {B m k n : Nat} {p : Int} {L : List (List Int)} (h : PkSt w v B m k n p L) (hk : k < m) {t : List Int} (ht : L.getD k [] = t) (hg : goodB p t = true) : PkSt w (v.setCells B (k * 16) (packOf t n).toList) B m (k + 1) n p L := by
  refine ⟨h.all.step hk ht, fun j hj => ?_, below_setCells h.bel B _ h.hB _, h.hB⟩
  by_cases e : j = k
  · subst e; rw [ht]; exact hg
  · exact h.good j (by omega)

theorem ljEnd_yes {p : Int} {L K : List (List Int)} {w w' : World} {B q : Nat} (hok : okL p L = true) (hK : K = leastR p L) (hq : K.length = q) (hp : PartL w' B q q 25 K) (hB : w.heap.size ≤ B) (hb : Below w.heap.size w w') :
    LjEnd (okL p L) (leastR p L) w (.returned (.tuple #[.slice (some ⟨B, 0, none⟩) q q, .bool true])) w' := by
  subst hq
  rw [← hK, hok]
  exact ⟨_, B, w'.heap.size, _, rfl, .inr ⟨rfl, hp.bound⟩, hB, Nat.le_refl _, hb, Nat.le_refl _⟩

theorem PartL.first {w : World} {q : Nat} {z : Array Value} {K : List (List Int)} : PartL (w.alloc (.cells (madeCells z q) 25)) w.heap.size q 0 25 K :=
  ⟨_, fun _ => 0, heap_alloc_new _ _, by rw [size_madeCells], fun j hj => absurd hj (by omega), fun i j _ hj => absurd hj (by omega)⟩

theorem listT_any (t : List Int) (n : Nat) (W : World) (hn : n ≤ 16) (hg : goodB n t = true) :
    Calls Try.prog 93 #[.agg (packOf t n), .int .i64 (n : Int)] W fun e w' => ∃ b0, e = .returned (.slice (some ⟨b0, 0, none⟩) n n) ∧ W.heap.size ≤ b0 ∧ w'.heap[b0]? = some (.cells (cellsOf t) 3 (0, 0)) ∧ Below W.heap.size W w' := by
  refine (list_any (fOf t n) n W hn (good_small hg n)).mono ?_
  rintro e w' ⟨rfl, rfl⟩
  have hl : t.length = n := by have := good_len hg; omega
  refine ⟨_, rfl, by omega, ?_, ((Below.refl _ _).alloc (Nat.le_refl _) _).alloc (by simp) _⟩
  rw [listF_of hl]
  have := heap_alloc_new (W.alloc (.cells (tokF (fOf t n)) 84)) (.cells (cellsOf t) 3)
  simpa using this

set_option maxHeartbeats 400000 in
theorem leastI_any (p : Int) (a : Option Addr) (m c : Nat) (L : List (List Int)) (w : World) (h : Lists w a m L) (hs : sizeN m L ≤ 1048576) :
    Calls Try.prog 24 #[.int .i64 p, .slice a m c] w fun e w' => LjEnd (okL p L) (leastR p L) w e w' := by
  have hm := h.1
  have hm20 : m ≤ 1048576 := by unfold sizeN at hs; omega
  cases hp : inB p 1 16
  · have HG := hide (ljEnd_no (okL_no1 (L := L) hp) (Below.refl w.heap.size w))
    clear h hs
    go_enter Try.func24, Try.ntmps24
    go_wp2_with (go_at_call 55; refine (goodPlaces_any _ _).mono ?_; rintro e w' ⟨rfl, rfl⟩)
    go_ret2
    exact HG.out
  by_cases h4 : m ≤ 400
  rotate_left
  · have HG := hide (ljEnd_no (okL_no2 (p := p) (L := L) (by omega)) (Below.refl w.heap.size w))
    clear h hs
    go_enter Try.func24, Try.ntmps24
    go_wp2_with (go_at_call 55; refine (goodPlaces_any _ _).mono ?_; rintro e w' ⟨rfl, rfl⟩)
    go_ret2
    exact HG.out
  obtain ⟨n, hn⟩ : ∃ n : Nat, p = (n : Int) := ⟨p.toNat, by simp [inB] at hp; omega⟩
  subst hn
  have hn16 : n ≤ 16 := by simp [inB] at hp; omega
  have HP := hide hp
  have HL := hide h
  have HM := hide hm
  have HS := hide hs
  have hmk := run_make_many (P := Try.prog) 71 84 _ 16 16 Try.underlying71 Try.infoT .i64 .i64 m (by omega) (by omega)
  simp only [Value.cells] at hmk
  clear h hm hs
  go_enter Try.func24, Try.ntmps24
  go_wp2_with (go_at_call 55; refine (goodPlaces_any _ _).mono ?_; rintro e w' ⟨rfl, hw'⟩; have hw2 := hw'.symm; subst hw2)
  go_loopw [24] (fun i wr => ∃ k : Nat, k ≤ m ∧ i = .int .i64 k ∧ Hid (PkSt w wr w.heap.size m k n n L)) (fun i _ => m - (intOf i).toNat)
  case atStart => exact ⟨0, Nat.zero_le _, rfl, ⟨by simp, there_made _ _ _ _, fun j hj => absurd hj (by omega)⟩, fun j hj => absurd hj (by omega), (Below.refl _ _).alloc (Nat.le_refl _) _, Nat.le_refl _⟩
  case round =>
    obtain ⟨k, hk, rfl, st⟩ := hrel
    clear hmk hp
    by_cases hlt : k < m
    · obtain ⟨b, off, a0, n0, c0, rfl, hb, hc0, m0, r0⟩ := (HL.out.below st.out.bel).at hlt
      have hl0 := len_le L k
      have hs' : m + sizeL L ≤ 1048576 := HS.out
      obtain ⟨t, ht⟩ : ∃ x, Hid (L.getD k [] = x) := ⟨_, rfl⟩
      rw [ht.out] at r0 hl0
      have q0 : n0 ≤ 1048576 := by have := r0.1; omega
      have HT := hide (tokens_any n a0 n0 c0 t wr r0 q0)
      have R0 := hide r0.1
      clear r0 hl0 q0 hs'
      go_wp2_with fail
      refine HT.out.mono ?_
      rintro e w1 ⟨m', rfl, hm', hb1⟩
      have hg0 := heap_alloc_new w1 (.cells #[.int .u8 0, .int .u8 0, .int .u8 0, .int .u8 0, .int .u8 0, .int .u8 0, .int .u8 0, .int .u8 0, .int .u8 0, .int .u8 0, .int .u8 0, .int .u8 0, .int .u8 0, .int .u8 0, .int .u8 0, .int .u8 0] 84)
      cases hgd : goodB n t
      · have HE := hide (ljEnd_no (okL_no3 (p := n) (L := L) (k := k) (by have := HM.out; omega) (by rw [ht.out]; exact hgd)) (st.out.bel.trans ((hb1.trans ((below_box w1 (packOf t m') (.cells #[.int .u8 0, .int .u8 0, .int .u8 0, .int .u8 0, .int .u8 0, .int .u8 0, .int .u8 0, .int .u8 0, .int .u8 0, .int .u8 0, .int .u8 0, .int .u8 0, .int .u8 0, .int .u8 0, .int .u8 0, .int .u8 0] 84)).mono hb1.size)).mono st.out.bel.size)))
        clear hb1 HT st hgd hc0
        go_wp2_with (refine wpList_store_row rfl 84 (.tmp 9) _ rfl _ _ rfl rfl 84 _ hg0 (by rw [packOf_size]; exact Try.size84) (by rw [packOf_size]; rfl) (packOf_one _ _) ?_)
        go_ret2
        exact HE.out
      have e1 := hm'.out hgd
      have e2 := good_len hgd
      have e3 := R0.out
      obtain rfl : m' = n := by omega
      have h9 := setRow_same hg0 (packOf t m')
      have ST := hide (st.out.grow (hb1.trans ((below_box w1 (packOf t m') (.cells #[.int .u8 0, .int .u8 0, .int .u8 0, .int .u8 0, .int .u8 0, .int .u8 0, .int .u8 0, .int .u8 0, .int .u8 0, .int .u8 0, .int .u8 0, .int .u8 0, .int .u8 0, .int .u8 0, .int .u8 0, .int .u8 0] 84)).mono hb1.size)))
      have hth := there_part ST.out.all.th (show k * 16 + (packOf t m').size ≤ m * 16 by rw [packOf_size]; omega)
      have ST2 := hide (ST.out.step hlt ht.out hgd)
      clear hb1 HT st hgd hc0 e1 e2 e3 hm' ST
      go_wp2_with (first
        | (show wpList _ _ _ (⟨none, .store 84 (.tmp 40) (.tmp 39), _, _, _, _⟩ :: _) _ _); refine wpList_store_mid rfl 84 (.tmp 40) (.tmp 39) rfl _ _ (packOf t m') rfl rfl hth (by rw [packOf_size]; exact Try.size84) (packOf_one _ _) ?_
        | (show wpList _ _ _ (⟨none, .store 84 (.tmp 9) (.tmp 33), _, _, _, _⟩ :: _) _ _); refine wpList_store_row rfl 84 (.tmp 9) _ rfl _ _ rfl rfl 84 _ hg0 (by rw [packOf_size]; exact Try.size84) (by rw [packOf_size]; rfl) (packOf_one _ _) ?_
        | (show wpList _ _ _ (⟨_, .load 84 (.tmp 9), _, _, _, _⟩ :: _) _ _); refine wpList_load_row rfl 84 (.tmp 9) rfl _ rfl 84 (packOf t m') (0, 0) _ h9 Try.underlying84 rfl (by rw [packOf_size]; exact Try.size84) ?_)
      go_roundw
      case rel => exact ⟨k + 1, by omega, by go_num, ST2⟩
      case measure => simp [intOf]; omega
    · have hk' : k = m := by omega
      subst hk'
      have HOK : Hid (okL n L = true) := okL_yes HP.out (by have := HM.out; omega) fun j hj => st.out.good j (by have := HM.out; omega)
      have HLE := hide (least_any n w.heap.size k k hn16 L wr st.out.all.lt (AllT.holds (by have := st.out.all; rw [← HM.out] at this; exact this)) HM.out h4)
      have HB1 := hide st.out.bel
      clear st
      go_wp2_with fail
      refine HLE.out.mono ?_
      rintro e w2 ⟨ds', al, q, cl, rfl, hlen, hmem, hpw, hq, hqL, hrow, hbel⟩
      have HK := hide (least_of HOK.out (show n = (n : Int).toNat by simp) hn16 hmem hpw)
      have HGD : Hid (∀ x ∈ keepL n ds', goodB n x = true) := fun x hx => okL_all HOK.out x ((hmem x).mp (by have := keepL_mem (n := n) (D := ds') ds'.length (Nat.le_refl _); rw [List.take_length] at this; exact this x hx))
      obtain ⟨K, hK⟩ : ∃ K, Hid (keepL n ds' = K) := ⟨_, rfl⟩
      rw [hK.out] at HK HGD hq hrow
      have HB2 := hide (HB1.out.trans hbel)
      have HR := hide hrow
      have HQ := hide hq
      have hq4 : q ≤ 400 := by have := HM.out; omega
      have hTK : TokL w2 al q n K := ⟨hq, by
        rcases Nat.eq_zero_or_pos q with h0 | h0
        · exact .inl h0
        · obtain ⟨b, off, ha, hbs, hr⟩ := hrow.at (show 0 < K.length by omega)
          refine .inr ⟨b, off, ha, hbs, fun k hk => ?_⟩
          obtain ⟨b', off', ha', _, hr'⟩ := hrow.at (show k < K.length by omega)
          rw [ha] at ha'
          simp only [Option.some.injEq, Addr.mk.injEq, and_true] at ha'
          obtain ⟨rfl, rfl⟩ := ha'
          exact hr'.out⟩
      have HLT := hide (listsTok_any n q cl al K w2 hTK hn16 hq4 (fun k hk => by
        have hg := HGD.out _ (getD_mem (show k < K.length by omega))
        exact ⟨by have := good_len hg; omega, (goodB_parts hg).2.2⟩))
      clear hlen hmem hpw hq hqL hrow hbel HLE HB1 hTK
      go_wp2_with fail
      refine HLT.out.mono ?_
      rintro e w3 ⟨M, rfl, hM, hPL, hbL⟩
      have HE := hide (ljEnd_yes HOK.out HK.out HQ.out hPL (Nat.le_trans HB2.out.size hM) (HB2.out.trans (hbL.mono HB2.out.size)))
      clear hM hPL hbL
      go_wp2_with fail
      go_ret2
      exact HE.out
end Go.Proofs.Ytedbihlpggficaa


/- l1Put: a number put to its place in a list, once; the list that is answered is the one that came, or a new one. -/
namespace Go.Proofs.Ytedbihlpggficaa
open Go.RowKit
set_option maxRecDepth 10000

/-- append, whatever is appended: nil, empty or not. -/
theorem wpList_append_any {P : Program} (w : World) {ops : Array Oper} {rest : List Oper} {o : Oper} {a : Act} {Q : Exit → Act → World → Prop} (hgd : o.guard = none) (s x : Operand) (t : TypeId)
    (ho : o.op = .call { callee := .builtin .append, args := #[s, x], argTypes := #[t, t] })
    (base : Nat) (e : TypeId) (i : TypeInfo) (z : Value) (size bytes : Nat) (ht : P.underlying t = some (.slice e)) (hi : P.info? e = some i) (hz : i.zero = some z)
    (hsize : i.size = size) (hby : i.bytes = bytes) (hzs : z.cells.size = size) (hsz : 0 < size)
    (v : Value) (n : Nat) (xs : List Value) (hs : a.eval s = v) (hown : w.ownsRow base e size v n xs)
    (ao : Option Addr) (m c : Nat) (news : List Value) (hx : a.eval x = .slice ao m c) (hl : news.length = m * size) (hnone : ao = none → m = 0 ∧ c = 0)
    (hnews : ∀ ad, ao = some ad → ∀ j u, news[j]? = some u → w.cell? (ad.add j) = some u) (h1 : ∀ u ∈ news, u.oneCell' = true)
    (h63 : n + m ≤ maxLen) (hbytes : (n + m) * bytes ≤ 140737488355328) (hbase : base ≤ w.heap.size)
    (h : ∀ v' w', w'.ownsRow base e size v' (n + m) (xs ++ news) → w.grownBy w' v.ownBlock → wpList P ops Q rest (a.put o.dst v') w') : wpList P ops Q (o :: rest) a w := by
  cases ao with
  | some ad => exact wpList_append_own w hgd s x t ho base e i z size bytes ht hi hz hsize hby hzs hsz v n xs hs hown ad m c news hx hl (hnews ad rfl) h1 h63 hbytes hbase fun v' w' r1 r2 _ => h v' w' r1 r2
  | none =>
    obtain ⟨rfl, rfl⟩ := hnone rfl
    have hnews : news = [] := List.eq_nil_of_length_eq_zero (by simpa using hl)
    subst hnews
    refine wpList_plain hgd fun K hK' => ?_
    have hrun := run_append_owned_none (P := P) w base t o.type e i size ht hi _ n xs hown
    unfold Oper.wp
    simp [execOp, ho, resolve, invoke, builtin, hs, hx, hrun, Result.andThen]
    exact hK' _ _ (by simpa using h v w (by simpa using hown) (World.grownBy.refl _ _))

/-- How l1Put ends. -/
def PutEnd (n b : Nat) (w : World) (e : Ending) (w' : World) : Prop :=
  ∃ g n' c' ys, e = .returned (.slice (some ⟨g, 0, none⟩) n' c') ∧ 1 ≤ n' ∧ n' ≤ n + 1 ∧ n' ≤ c' ∧ c' ≤ maxLen ∧ Row w' (some ⟨g, 0, none⟩) n' ys ∧ (g = b ∨ w.heap.size ≤ g) ∧ Below w.heap.size w w'

theorem cells_upto {w : World} {a : Option Addr} {l i : Nat} {A : List Int} (h : Row w a l A) (hi : i ≤ l) : ∀ ad, a = some ad → ∀ t u, ((A.take i).map (Value.int .i64))[t]? = some u → w.cell? (ad.add t) = some u := by
  intro ad had t u hu
  have hA := h.1
  have ht : t < i := by
    have := (List.getElem?_eq_some_iff.1 hu).1
    simp at this; omega
  rcases h.2 with h0 | ⟨b, off, e, hl, hc⟩
  · omega
  · rw [e] at had
    obtain rfl := Option.some.inj had
    rw [Addr.add_mid, hc t (by omega), ← hu]
    simp [ht, show t < A.length by omega]

theorem cells_behind {w : World} {a : Option Addr} {l i : Nat} {A : List Int} (h : Row w a l A) (hi : i < l) : ∀ b off, a = some ⟨b, off, none⟩ → ∀ t u, ((A.drop i).map (Value.int .i64))[t]? = some u → w.cell? ((⟨b, off + i, none⟩ : Addr).add t) = some u := by
  intro b off had t u hu
  have hA := h.1
  have ht : t < l - i := by
    have := (List.getElem?_eq_some_iff.1 hu).1
    simp at this; omega
  rcases h.2 with h0 | ⟨b', off', e, hl, hc⟩
  · omega
  · rw [e] at had
    obtain ⟨rfl, rfl⟩ : b' = b ∧ off' = off := by simpa using had
    rw [Addr.add_mid, Nat.add_assoc, hc (i + t) (by omega), ← hu]
    simp [show i + t < A.length by omega]

theorem ownsRow_row2 {B : Nat} {w : World} {v : Value} {n : Nat} {l : List Int} (hown : w.ownsRow B 3 1 v n (l.map (Value.int .i64))) : ∃ a c, v = .slice a n c ∧ Row w a n l := by
  have hl : l.length = n := by have := hown.1; simpa using this
  rcases hown.2 with ⟨rfl, rfl⟩ | ⟨g, cap, cur, rfl, hb, hh, hnc, _, hsz, ht⟩
  · exact ⟨none, 0, rfl, hl, .inl rfl⟩
  · refine ⟨_, cap, rfl, hl, .inr ⟨g, 0, rfl, (Array.getElem?_eq_some_iff.mp hh).1, fun i hi => ?_⟩⟩
    rw [cell_of_row w g (0 + i) _ _ _ hh, Nat.zero_add]
    have e1 : (cur.toList.take (n * 1))[i]? = some (.int .i64 (l.getD i 0)) := by
      rw [ht]; simp [List.getElem?_map, List.getElem?_eq_getElem (show i < l.length by omega)]
    rw [List.getElem?_take_of_lt (by omega)] at e1
    simpa using e1

theorem putEnd_own {n b m : Nat} {w v : World} {u : Value} {ys : List Int} (hb : Below w.heap.size w v) (hown : v.ownsRow w.heap.size 3 1 u m (ys.map (Value.int .i64))) (hm : 1 ≤ m) (hmn : m ≤ n + 1) : PutEnd n b w (.returned u) v := by
  rcases hown.2 with ⟨_, h0⟩ | ⟨g, cap, cur, rfl, hbg, hh, hnc, hcm, hsz, ht⟩
  · omega
  · obtain ⟨a', c', e, hr⟩ := ownsRow_row2 hown
    obtain ⟨rfl, rfl⟩ : a' = some ⟨g, 0, none⟩ ∧ c' = cap := by simpa [eq_comm] using e
    exact ⟨g, m, _, ys, rfl, hm, hmn, hnc, hcm, hr, .inr hbg, hb⟩

/-- What is there while l1Put builds its list. -/
structure PutSt (w v : World) (u : Value) (m : Nat) (ys : List Int) : Prop where
  own : v.ownsRow w.heap.size 3 1 u m (ys.map (Value.int .i64))
  bel : Below w.heap.size w v

theorem PutSt.first (w : World) : PutSt w (w.alloc (.cells #[] 3)) (.slice (some ⟨w.heap.size, 0, none⟩) 0 0) 0 [] :=
  ⟨⟨rfl, .inr ⟨w.heap.size, 0, #[], rfl, Nat.le_refl _, heap_alloc_new _ _, Nat.le_refl _, Nat.zero_le _, rfl, rfl⟩⟩, below_al w _⟩
theorem PutSt.alloc {w v : World} {u : Value} {m : Nat} {ys : List Int} (h : PutSt w v u m ys) (o : Obj) : PutSt w (v.alloc o) u m ys := ⟨h.own.alloc o, h.bel.trans ((below_al v o).mono h.bel.size)⟩
theorem PutSt.step {w v v' : World} {u u' : Value} {m q : Nat} {ys zs : List Int} (h : PutSt w v u m ys) (r1 : v'.ownsRow w.heap.size 3 1 u' (m + q) (ys.map (Value.int .i64) ++ zs.map (Value.int .i64))) (r2 : v.grownBy v' u.ownBlock) : PutSt w v' u' (m + q) (ys ++ zs) :=
  ⟨by rw [List.map_append]; exact r1, h.bel.grown r2 h.bel.size fun k hk => (h.own.lt k hk).1⟩
theorem PutSt.done {w v : World} {u : Value} {m n b : Nat} {ys : List Int} (h : PutSt w v u m ys) (hm : 1 ≤ m) (hmn : m ≤ n + 1) : PutEnd n b w (.returned u) v := putEnd_own h.bel h.own hm hmn

end Go.Proofs.Ytedbihlpggficaa


/- The cursor that draws choices from bytes: next, pick, one, among, places and mark answer within their bounds, whatever the bytes, and write into nothing that was there but the cursor. -/
namespace Go.Proofs.Ytedbihlpggficaa
open Go.RowKit

/-- A slice of bytes reads as the list bs. -/
def RowB (w : World) (a : Option Addr) (n : Nat) (bs : List Int) : Prop :=
  bs.length = n ∧ (∀ i, 0 ≤ bs.getD i 0 ∧ bs.getD i 0 ≤ 255) ∧ (n = 0 ∨ ∃ b off, a = some ⟨b, off, none⟩ ∧ b < w.heap.size ∧ ∀ i, i < n → w.cell? ⟨b, off + i, none⟩ = some (.int .u8 (bs.getD i 0)))

theorem cur_step {w : World} {bc : Nat} {t : TypeId} {A B C : Value} (h : w.heap[bc]? = some (.cells #[A, B, C] t (0, 0))) (q : Nat) (v u : Value) :
    (((w.drewN q).setCell ⟨bc, 1, none⟩ v).setCell ⟨bc, 2, none⟩ u).heap[bc]? = some (.cells #[A, v, u] t (0, 0)) := by
  have h1 := heap_setCell_same (w.drewN q) bc 1 _ _ v h
  have h2 := heap_setCell_same _ bc 2 _ _ u h1
  simpa using h2

end Go.Proofs.Ytedbihlpggficaa


/- l1Own of whatever list; pick of one. -/
namespace Go.Proofs.Ytedbihlpggficaa
open Go.RowKit
set_option maxRecDepth 10000

theorem run_append_none {P : Program} (w : World) (base : Nat) (t ty e : TypeId) (i : TypeInfo) (size : Nat) (ht : P.underlying t = some (.slice e)) (hi : P.info? e = some i)
    (v : Value) (n c : Nat) (xs : List Value) (hown : w.ownsRow base e size v n xs) :
    (Builtin.append_ #[t, t] ty #[v, .slice none 0 c]).run P w = .ok v w := by
  rcases hown.2 with ⟨rfl, rfl⟩ | ⟨g, cap, cur, rfl, _, _, hnc, _⟩
  · simp [Builtin.append_, run_underlying ht, sizeOf, typeInfo, hi, Builtin.lenOf, Builtin.firstCells]
  · simp [Builtin.append_, run_underlying ht, sizeOf, typeInfo, hi, Builtin.lenOf, Builtin.firstCells, hnc, storeCells]

/-- append, whatever is appended. -/
theorem wpList_append_any2 {P : Program} (w : World) {ops : Array Oper} {rest : List Oper} {o : Oper} {a : Act} {Q : Exit → Act → World → Prop} (hgd : o.guard = none) (s x : Operand) (t : TypeId)
    (ho : o.op = .call { callee := .builtin .append, args := #[s, x], argTypes := #[t, t] })
    (base : Nat) (e : TypeId) (i : TypeInfo) (z : Value) (size bytes : Nat) (ht : P.underlying t = some (.slice e)) (hi : P.info? e = some i) (hz : i.zero = some z)
    (hsize : i.size = size) (hby : i.bytes = bytes) (hzs : z.cells.size = size) (hsz : 0 < size)
    (v : Value) (n : Nat) (xs : List Value) (hs : a.eval s = v) (hown : w.ownsRow base e size v n xs)
    (ao : Option Addr) (m c : Nat) (news : List Value) (hx : a.eval x = .slice ao m c) (hl : news.length = m * size) (hnone : ao = none → m = 0)
    (hnews : ∀ ad, ao = some ad → ∀ j u, news[j]? = some u → w.cell? (ad.add j) = some u) (h1 : ∀ u ∈ news, u.oneCell' = true)
    (h63 : n + m ≤ maxLen) (hbytes : (n + m) * bytes ≤ 140737488355328) (hbase : base ≤ w.heap.size)
    (h : ∀ v' w', w'.ownsRow base e size v' (n + m) (xs ++ news) → w.grownBy w' v.ownBlock → wpList P ops Q rest (a.put o.dst v') w') : wpList P ops Q (o :: rest) a w := by
  cases ao with
  | some ad => exact wpList_append_own w hgd s x t ho base e i z size bytes ht hi hz hsize hby hzs hsz v n xs hs hown ad m c news hx hl (hnews ad rfl) h1 h63 hbytes hbase fun v' w' r1 r2 _ => h v' w' r1 r2
  | none =>
    obtain rfl := hnone rfl
    have hnews : news = [] := List.eq_nil_of_length_eq_zero (by simpa using hl)
    subst hnews
    refine wpList_plain hgd fun K hK' => ?_
    have hrun := run_append_none (P := P) w base t o.type e i size ht hi _ n c xs hown
    unfold Oper.wp
    simp [execOp, ho, resolve, invoke, builtin, hs, hx, hrun, Result.andThen]
    exact hK' _ _ (by simpa using h v w (by simpa using hown) (World.grownBy.refl _ _))

theorem Row.some_of {w : World} {a : Option Addr} {n : Nat} {xs : List Int} (h : Row w a n xs) : ∀ ad, a = some ad → ∀ j u, (xs.map (Value.int .i64))[j]? = some u → w.cell? (ad.add j) = some u := by
  have := cells_upto h (Nat.le_refl n)
  rw [List.take_of_length_le (by have := h.1; omega)] at this
  exact this

set_option maxHeartbeats 400000 in
theorem own3_any (a : Option Addr) (n c : Nat) (xs : List Int) (w : World) (ha : Row w a n xs) (hn : n ≤ 1048576) :
    Calls Try.prog 72 #[.slice a n c] w fun e w' => ∃ a' c', e = .returned (.slice a' n c') ∧ Row w' a' n xs ∧ (0 < n → ∀ x, a' = some x → w.heap.size ≤ x.block) ∧ Below w.heap.size w w' := by
  obtain ⟨i0, hi, hz0, hz1, hz2⟩ := info_split Try.info3
  have P0 := hide (PutSt.first w)
  have HA := hide (ha.below P0.out.bel)
  have HL := hide ha.1
  clear ha
  go_enter Try.func72, Try.ntmps72
  go_wp2_with (at_builtin; refine wpList_append_any2 _ rfl (.tmp 3) (.tmp 4) 25 rfl w.heap.size 3 i0 (.int .i64 0) 1 8 Try.underlying25 hi hz0 hz1 hz2 rfl (by decide) (.slice (some ⟨w.heap.size, 0, none⟩) 0 0) 0 [] rfl P0.out.own a n c (xs.map (Value.int .i64)) rfl (by rw [List.length_map, Nat.mul_one]; exact HL.out) (fun h => by (rcases HA.out.2 with h0 | ⟨b, off, e, _⟩; exact h0; rw [h] at e; cases e)) HA.out.some_of (ints_oneCell _ _) (by unfold maxLen; omega) (by omega) (by simp) ?_; intro u1 W1 r1 r2; have P1 := hide (P0.out.step (q := n) (zs := xs) r1 r2); clear r1 r2)
  go_ret
  have P2 := P1.out
  rw [Nat.zero_add, List.nil_append] at P2
  have hlt := P2.own.lt
  obtain ⟨a', c', rfl, hr⟩ := ownsRow_row2 P2.own
  exact ⟨a', c', rfl, hr, fun _ x hx => by subst hx; exact (hlt x.block rfl).1, P2.bel⟩

end Go.Proofs.Ytedbihlpggficaa


/- l1InOrder: a mark is put to its place, once. -/
namespace Go.Proofs.Ytedbihlpggficaa
open Go.RowKit
set_option maxRecDepth 10000

/-- A row of lists that append made, out of lists that were there. -/
structure SlSt (D : Nat) (u v : World) (o : Value) (q : Nat) (cs : List Value) (X : List (List Int)) (n : Nat) : Prop where
  own : v.ownsRow D 25 1 o q cs
  cell : ∀ j, j < q → ∃ a c, cs[j]? = some (.slice a n c) ∧ Row u a n (X.getD j [])
  len : X.length = q
  bel : Below D u v
  low : D ≤ v.heap.size

theorem SlSt.grow {D n q : Nat} {u v v' : World} {o : Value} {cs : List Value} {X : List (List Int)} (h : SlSt D u v o q cs X n) (hb : Below v.heap.size v v') : SlSt D u v' o q cs X n :=
  ⟨own_grow2 h.own hb, h.cell, h.len, h.bel.trans (hb.mono h.low), Nat.le_trans h.low hb.size⟩

theorem SlSt.step {D n q : Nat} {u v v' : World} {o o' : Value} {cs : List Value} {X : List (List Int)} {x : List Int} {a : Option Addr} {c : Nat} (h : SlSt D u v o q cs X n) (hr : Row u a n x)
    (r1 : v'.ownsRow D 25 1 o' (q + 1) (cs ++ [.slice a n c])) (r2 : v.grownBy v' o.ownBlock) : SlSt D u v' o' (q + 1) (cs ++ [.slice a n c]) (X ++ [x]) n := by
  have hcl : cs.length = q := by have := h.own.1; omega
  refine ⟨r1, fun j hj => ?_, by simp [h.len], h.bel.grown r2 h.low fun k hk => (h.own.lt k hk).1, Nat.le_trans h.low r2.size⟩
  have hxl := h.len
  by_cases hjq : j < q
  · obtain ⟨a', c', h1, h2⟩ := h.cell j hjq
    refine ⟨a', c', by rw [List.getElem?_append_left (by omega)]; exact h1, ?_⟩
    rw [List.getD_eq_getElem?_getD, List.getElem?_append_left (by omega), ← List.getD_eq_getElem?_getD]
    exact h2
  · obtain rfl : j = q := by omega
    refine ⟨a, c, by rw [List.getElem?_append_right (by omega)]; simp [hcl], ?_⟩
    rw [List.getD_eq_getElem?_getD, List.getElem?_append_right (by omega)]
    simpa [hxl] using hr

theorem SlSt.lists {D n q : Nat} {u v : World} {o : Value} {cs : List Value} {X : List (List Int)} (h : SlSt D u v o q cs X n) (hn : n ≤ 16) (hD : u.heap.size = D) : ∃ a c, o = .slice a q c ∧ Lists v a q X := by
  have hcl : cs.length = q := by have := h.own.1; omega
  rcases h.own.2 with ⟨rfl, rfl⟩ | ⟨g, cap, cur, rfl, hb, hh, hnc, _, hsz, ht⟩
  · exact ⟨none, 0, rfl, h.len, .inl rfl⟩
  · refine ⟨_, cap, rfl, h.len, .inr ⟨g, 0, rfl, (Array.getElem?_eq_some_iff.mp hh).1, fun j hj => ?_⟩⟩
    obtain ⟨a, c, h1, h2⟩ := h.cell j hj
    refine ⟨a, n, c, ?_, by unfold maxLen; omega, h2.below (by rw [hD]; exact h.bel)⟩
    rw [cell_of_row v g _ _ _ _ hh, Nat.zero_add, ← Array.getElem?_toList, ← h1, ← ht, List.getElem?_take_of_lt (by omega)]

/-- Where putting a mark to its place is, behind the first k. -/
def InsUpto (n : Nat) (m : List Int) (O : List (List Int)) (k : Nat) (pb : Bool) (X : List (List Int)) : Prop :=
  if pb = true then ∃ j, j < k ∧ X = O.take j ++ m :: (O.take k).drop j ∧ (∀ x ∈ O.take j, 0 < cmpL n m x) ∧ ∀ x ∈ (O.take k).drop j, cmpL n m x < 0
  else X = O.take k ∧ ∀ x ∈ O.take k, 0 < cmpL n m x

theorem InsUpto.first (n : Nat) (m : List Int) (O : List (List Int)) : InsUpto n m O 0 false [] := by
  unfold InsUpto; rw [if_neg (by decide)]; simp

theorem drop_take_succ {O : List (List Int)} {j k : Nat} (hj : j ≤ k) (hk : k < O.length) : (O.take (k + 1)).drop j = (O.take k).drop j ++ [O.getD k []] := by
  rw [take_getD hk, List.drop_append_of_le_length (by rw [List.length_take]; omega)]

theorem InsUpto.put {n k : Nat} {m : List Int} {O X : List (List Int)} (h : InsUpto n m O k false X) (hk : k < O.length) (hc : cmpL n m (O.getD k []) < 0) : InsUpto n m O (k + 1) true (X ++ [m] ++ [O.getD k []]) := by
  unfold InsUpto at *
  rw [if_neg (by decide)] at h
  rw [if_pos rfl]
  have e : (O.take (k + 1)).drop k = [O.getD k []] := by
    rw [drop_take_succ (Nat.le_refl k) hk, List.drop_eq_nil_of_le (by rw [List.length_take]; omega)]; rfl
  refine ⟨k, by omega, by rw [e, h.1]; simp, h.2, fun x hx => ?_⟩
  rw [e] at hx
  obtain rfl := List.mem_singleton.mp hx
  exact hc

theorem InsUpto.past {n k : Nat} {m : List Int} {O X : List (List Int)} (h : InsUpto n m O k true X) (hk : k < O.length) (hc : cmpL n m (O.getD k []) < 0) : InsUpto n m O (k + 1) true (X ++ [O.getD k []]) := by
  unfold InsUpto at *
  rw [if_pos rfl] at *
  obtain ⟨j, h1, h2, h3, h4⟩ := h
  refine ⟨j, by omega, by rw [drop_take_succ (by omega) hk, h2]; simp, h3, fun x hx => ?_⟩
  rw [drop_take_succ (by omega) hk] at hx
  rcases List.mem_append.mp hx with hx | hx
  · exact h4 x hx
  · obtain rfl := List.mem_singleton.mp hx
    exact hc

theorem InsUpto.ahead {n k : Nat} {m : List Int} {O X : List (List Int)} (h : InsUpto n m O k false X) (hk : k < O.length) (hc : 0 < cmpL n m (O.getD k [])) : InsUpto n m O (k + 1) false (X ++ [O.getD k []]) := by
  unfold InsUpto at *
  rw [if_neg (by decide)] at *
  refine ⟨by rw [take_getD hk, h.1], fun x hx => ?_⟩
  rw [take_getD hk] at hx
  rcases List.mem_append.mp hx with hx | hx
  · exact h.2 x hx
  · obtain rfl := List.mem_singleton.mp hx
    exact hc

theorem InsUpto.sure {n k : Nat} {m : List Int} {O X : List (List Int)} (h : InsUpto n m O k true X) (hs : SortL n O) (hk : k < O.length) : cmpL n m (O.getD k []) < 0 := by
  unfold InsUpto at h
  rw [if_pos rfl] at h
  obtain ⟨j, h1, _, _, h4⟩ := h
  have hj : O.getD j [] ∈ (O.take k).drop j := by
    rw [List.mem_iff_getElem]
    refine ⟨0, by rw [List.length_drop, List.length_take]; omega, ?_⟩
    simp [show j < O.length by omega]
  have h5 := h4 _ hj
  have h6 := (List.pairwise_iff_getElem.mp hs) j k (by omega) hk h1
  refine cmpL_lt h5 (Int.le_of_lt ?_)
  simpa [hk, show j < O.length by omega] using h6

theorem InsUpto.done {n : Nat} {m : List Int} {O X : List (List Int)} (h : InsUpto n m O O.length true X) : Ins n m O X := by
  unfold InsUpto at h
  rw [if_pos rfl] at h
  obtain ⟨j, h1, h2, h3, h4⟩ := h
  rw [List.take_length] at h2 h4
  exact .inr ⟨j, by omega, h2, h3, h4⟩

theorem InsUpto.last {n : Nat} {m : List Int} {O X : List (List Int)} (h : InsUpto n m O O.length false X) : Ins n m O (X ++ [m]) := by
  unfold InsUpto at h
  rw [if_neg (by decide)] at h
  rw [List.take_length] at h
  exact .inr ⟨O.length, Nat.le_refl _, by rw [h.1]; simp, by rw [List.take_length]; exact h.2, fun x hx => by simp at hx⟩
end Go.Proofs.Ytedbihlpggficaa


/- l1InOrder, walked. -/
namespace Go.Proofs.Ytedbihlpggficaa
open Go.RowKit
set_option maxRecDepth 10000

def InEnd (n : Nat) (m : List Int) (O : List (List Int)) (w : World) (e : Ending) (w' : World) : Prop := ∃ a q c R, e = .returned (.slice a q c) ∧ Lists w' a q R ∧ Ins n m O R ∧ Below w.heap.size w w'

set_option maxHeartbeats 2000000 in
theorem inOrder_any (n : Nat) (al : Option Addr) (ql cl : Nat) (O : List (List Int)) (am : Option Addr) (cm : Nat) (m : List Int) (w : World) (hl : Lists w al ql O) (hO : ∀ x ∈ O, x.length = n) (hm : Row w am n m) (hs : SortL n O) (hn : n ≤ 16) (hq : ql ≤ 400) :
    Calls Try.prog 92 #[.slice al ql cl, .slice am n cm] w fun e w' => InEnd n m O w e w' := by
  obtain ⟨i0, hi, hz0, hz1, hz2⟩ := info_split Try.info25
  have HL := hide hl
  have HLE := hide hl.1
  have HO := hide hO
  have HM := hide hm
  have HS := hide hs
  have HI := hide (And.intro hi (And.intro hz0 (And.intro hz1 hz2)))
  clear hl hO hm hs hi hz0 hz1 hz2
  go_enter Try.func92, Try.ntmps92
  go_wp2_with fail
  go_loopw [5, 6, 12] (fun o pv i wr => ∃ (k q : Nat) (pb : Bool) (cs : List Value) (X : List (List Int)), k ≤ ql ∧ i = .int .i64 k ∧ pv = .bool pb ∧ q ≤ k + 1 ∧ Hid (SlSt w.heap.size w wr o q cs X n) ∧ Hid (InsUpto n m O k pb X)) (fun _ _ i _ => ql - (intOf i).toNat)
  case atStart => exact ⟨0, 0, false, [], [], Nat.zero_le _, rfl, rfl, by omega, ⟨World.ownsRow_nil _ _ _ _, fun j hj => absurd hj (by omega), rfl, Below.refl _ _, Nat.le_refl _⟩, InsUpto.first _ _ _⟩
  case round =>
    obtain ⟨k, q, pb, cs, X, hk, rfl, rfl, hqk, st, hi⟩ := hrel
    by_cases hlt : k < ql
    rotate_left
    · have hk' : k = ql := by omega
      subst hk'
      have hlo : w.heap.size ≤ wr.heap.size := st.out.low
      have HX := hide hi.out
      rw [← HLE.out] at HX
      cases pb
      · have ST3 := hide (st.out.grow (below_al wr (.cells #[.slice am n cm] 25)))
        obtain ⟨hi0, hz0, hz1, hz2⟩ := HI.out
        clear st
        go_wp2_with (at_builtin; refine wpList_append_own _ rfl (.tmp 39) (.tmp 41) 27 rfl w.heap.size 25 i0 _ 1 24 Try.underlying27 hi0 hz0 hz1 hz2 rfl (by decide) _ q _ rfl ST3.out.own ⟨wr.heap.size, 0, none⟩ 1 1 [.slice am n cm] rfl rfl (cell_one_new _ _ _) (by simp [Value.oneCell']) (by unfold maxLen; omega) (by omega) (by simp; omega) ?_; intro v' w3 r1 r2 _; have ST4 := hide (ST3.out.step HM.out r1 r2); clear r1 r2)
        obtain ⟨a', c', rfl, hls⟩ := ST4.out.lists hn rfl
        have HE : Hid (InEnd n m O w (.returned (.slice a' (q + 1) c')) w3) := ⟨a', q + 1, c', _, rfl, hls, HX.out.last, ST4.out.bel⟩
        clear ST4 hls
        go_wp2_with fail
        go_ret
        exact HE.out
      · obtain ⟨a', c', rfl, hls⟩ := st.out.lists hn rfl
        have HE : Hid (InEnd n m O w (.returned (.slice a' q c')) wr) := ⟨a', q, c', _, rfl, hls, HX.out.done, st.out.bel⟩
        clear st hls
        go_wp2_with fail
        go_ret
        exact HE.out
    have hlt' : k < O.length := by have := HLE.out; omega
    obtain ⟨b, off, a0, n0, c0, rfl, hb, hc0, m0, r0⟩ := (HL.out.below st.out.bel).at hlt
    obtain rfl : n0 = n := by have := HO.out _ (getD_mem hlt'); have := r0.1; omega
    have HR0 : Hid (Row w a0 n0 (O.getD k [])) := by
      obtain ⟨b', off', a', n', c', e1, hb', hc', _, r'⟩ := HL.out.at hlt
      simp only [Option.some.injEq, Addr.mk.injEq] at e1
      obtain ⟨rfl, rfl, _⟩ := e1
      rw [st.out.bel.cell hb'] at hc0
      rw [hc'] at hc0
      simp only [Option.some.injEq, Value.slice.injEq] at hc0
      obtain ⟨rfl, rfl, rfl⟩ := hc0
      exact r'
    have HC := hide (cmpS_any am a0 n0 cm c0 m (O.getD k []) wr (HM.out.below st.out.bel) r0 hn)
    obtain ⟨x, hx⟩ : ∃ x, Hid (O.getD k [] = x) := ⟨_, rfl⟩
    have hcd : cmpL n0 m (O.getD k []) = cmpN (getF m) (getF (O.getD k [])) n0 0 := rfl
    obtain ⟨z, hz⟩ : ∃ z, Hid (cmpL n0 m (O.getD k []) = z) := ⟨_, rfl⟩
    rw [← hcd, hz.out] at HC
    rw [hx.out] at HR0
    clear r0 m0 hcd
    go_wp2_with fail
    refine HC.out.mono ?_
    rintro e v1 ⟨rfl, qd, rfl⟩
    have ST1 := hide (st.out.grow (below_drewN' wr qd))
    generalize wr.drewN qd = v1 at *
    clear HC st
    have hlo : w.heap.size ≤ v1.heap.size := ST1.out.low
    obtain ⟨hi0, hz0, hz1, hz2⟩ := HI.out
    rcases Int.lt_trichotomy z 0 with hzz | hzz | hzz
    · have hze : (z == 0) = false := by simp; omega
      have hzd : decide (z = 0) = false := by simp; omega
      cases pb
      · have hqe : q ≤ k := by
          have h1 := hi.out
          unfold InsUpto at h1
          rw [if_neg (by decide)] at h1
          have := ST1.out.len
          rw [h1.1, List.length_take] at this
          omega
        have HX := hide (hi.out.put hlt' (by rw [hz.out]; exact hzz))
        rw [hx.out] at HX
        have STa := hide (ST1.out.grow (below_al v1 (.cells #[.slice am n0 cm] 25)))
        clear hc0 ST1 hi
        go_wp2_with (first
          | ((show wpList _ _ _ (⟨_, .call ⟨_, #[.tmp 28, .tmp 30], _⟩, _, _, _, _⟩ :: _) _ _); at_builtin; refine wpList_append_own _ rfl (.tmp 28) (.tmp 30) 27 rfl w.heap.size 25 i0 _ 1 24 Try.underlying27 hi0 hz0 hz1 hz2 rfl (by decide) _ _ _ rfl STa.out.own ⟨v1.heap.size, 0, none⟩ 1 1 [.slice am n0 cm] rfl rfl (cell_one_new _ _ _) (by simp [Value.oneCell']) (by unfold maxLen; omega) (by omega) (by simp; omega) ?_; intro v' w2 r1 r2 _; have STb := hide (STa.out.step HM.out r1 r2); clear r1 r2; have hlo2 : w.heap.size ≤ w2.heap.size := STb.out.low; have STc := hide (STb.out.grow (below_al w2 (.cells #[.slice a0 n0 c0] 25))))
          | ((show wpList _ _ _ (⟨_, .call ⟨_, #[.tmp 32, .tmp 34], _⟩, _, _, _, _⟩ :: _) _ _); at_builtin; refine wpList_append_own _ rfl (.tmp 32) (.tmp 34) 27 rfl w.heap.size 25 i0 _ 1 24 Try.underlying27 hi0 hz0 hz1 hz2 rfl (by decide) _ _ _ rfl STc.out.own ⟨w2.heap.size, 0, none⟩ 1 1 [.slice a0 n0 c0] rfl rfl (cell_one_new _ _ _) (by simp [Value.oneCell']) (by unfold maxLen; omega) (by omega) (by simp; omega) ?_; intro v' w3 r1 r2 _; have ST3 := hide (STc.out.step HR0.out r1 r2); clear r1 r2))
        go_roundw
        case rel => exact ⟨k + 1, _, true, _, _, by omega, by go_num, rfl, by omega, ST3, HX⟩
        case measure => simp [intOf]; omega
      · have HX := hide (hi.out.past hlt' (by rw [hz.out]; exact hzz))
        rw [hx.out] at HX
        have ST2 := hide (ST1.out.grow (below_al v1 (.cells #[.slice a0 n0 c0] 25)))
        clear hc0 ST1 hi
        go_wp2_with ((show wpList _ _ _ (⟨_, .call ⟨_, #[.tmp 32, .tmp 34], _⟩, _, _, _, _⟩ :: _) _ _); at_builtin; refine wpList_append_own _ rfl (.tmp 32) (.tmp 34) 27 rfl w.heap.size 25 i0 _ 1 24 Try.underlying27 hi0 hz0 hz1 hz2 rfl (by decide) _ _ _ rfl ST2.out.own ⟨v1.heap.size, 0, none⟩ 1 1 [.slice a0 n0 c0] rfl rfl (cell_one_new _ _ _) (by simp [Value.oneCell']) (by unfold maxLen; omega) (by omega) (by simp; omega) ?_; intro v' w3 r1 r2 _; have ST3 := hide (ST2.out.step HR0.out r1 r2); clear r1 r2)
        go_roundw
        case rel => exact ⟨k + 1, _, true, _, _, by omega, by go_num, rfl, by omega, ST3, HX⟩
        case measure => simp [intOf]; omega
    · subst hzz
      have HE : Hid (InEnd n0 m O w (.returned (.slice (some ⟨b, off, none⟩) ql cl)) v1) := ⟨_, ql, cl, O, rfl, HL.out.below ST1.out.bel, .inl ⟨rfl, _, getD_mem hlt', hz.out⟩, ST1.out.bel⟩
      clear hc0 ST1 hi
      go_wp2_with fail
      go_ret
      exact HE.out
    · have hze : (z == 0) = false := by simp; omega
      have hzd : decide (z = 0) = false := by simp; omega
      cases pb
      · have HX := hide (hi.out.ahead hlt' (by rw [hz.out]; exact hzz))
        rw [hx.out] at HX
        have ST2 := hide (ST1.out.grow (below_al v1 (.cells #[.slice a0 n0 c0] 25)))
        clear hc0 ST1 hi
        go_wp2_with ((show wpList _ _ _ (⟨_, .call ⟨_, #[.tmp 32, .tmp 34], _⟩, _, _, _, _⟩ :: _) _ _); at_builtin; refine wpList_append_own _ rfl (.tmp 32) (.tmp 34) 27 rfl w.heap.size 25 i0 _ 1 24 Try.underlying27 hi0 hz0 hz1 hz2 rfl (by decide) _ _ _ rfl ST2.out.own ⟨v1.heap.size, 0, none⟩ 1 1 [.slice a0 n0 c0] rfl rfl (cell_one_new _ _ _) (by simp [Value.oneCell']) (by unfold maxLen; omega) (by omega) (by simp; omega) ?_; intro v' w3 r1 r2 _; have ST3 := hide (ST2.out.step HR0.out r1 r2); clear r1 r2)
        go_roundw
        case rel => exact ⟨k + 1, _, false, _, _, by omega, by go_num, rfl, by omega, ST3, HX⟩
        case measure => simp [intOf]; omega
      · exfalso
        have := hi.out.sure HS.out hlt'
        rw [hz.out] at this
        omega
end Go.Proofs.Ytedbihlpggficaa


/- The specification's LeastMarks. -/
namespace Go.Proofs.Ytedbihlpggficaa
open Go.RowKit
set_option maxRecDepth 10000

/-- Whether a mark is a least one, as far as it was asked. -/
def leastU (n : Nat) (L : List (List Int)) (m : List Int) (j : Nat) : Bool := (L.take j).all fun x => !covL n m x || sameB m x

theorem leastU_succ {n : Nat} {L : List (List Int)} {m : List Int} {j : Nat} (hj : j < L.length) : leastU n L m (j + 1) = (leastU n L m j && (!covL n m (L.getD j []) || sameB m (L.getD j []))) := by
  unfold leastU
  rw [take_getD hj, List.all_append]
  simp only [List.all_cons, List.all_nil, Bool.and_true]

theorem leastU_all (n : Nat) (L : List (List Int)) (m : List Int) : leastU n L m L.length = leastB n L m := by
  unfold leastU leastB; rw [List.take_length]

/-- What is there while the least ones are looked for. -/
structure LmSt (w v : World) (n k : Nat) (L : List (List Int)) (o : Value) (O : List (List Int)) : Prop where
  out : ∃ a q c, o = .slice a q c ∧ Lists v a q O
  min : MinUpto n L k O
  bel : Below w.heap.size w v

theorem LmSt.grow {w v v' : World} {n k : Nat} {L O : List (List Int)} {o : Value} (h : LmSt w v n k L o O) (hb : Below v.heap.size v v') : LmSt w v' n k L o O := by
  obtain ⟨a, q, c, e, hl⟩ := h.out
  exact ⟨⟨a, q, c, e, hl.below hb⟩, h.min, h.bel.trans (hb.mono h.bel.size)⟩

set_option maxHeartbeats 2000000 in
theorem leastB_any (n : Nat) (al : Option Addr) (ml cl : Nat) (L : List (List Int)) (w : World) (hl : Lists w al ml L) (hL : ∀ x ∈ L, x.length = n) (hn : n ≤ 16) (hm : ml ≤ 400) :
    Calls Try.prog 54 #[.slice al ml cl] w fun e w' => ∃ a q c O, e = .returned (.slice a q c) ∧ Lists w' a q O ∧ MinOf n L O ∧ Below w.heap.size w w' := by
  have HL := hide hl
  have HLE := hide hl.1
  have HN := hide hL
  clear hl hL
  go_enter Try.func54, Try.ntmps54
  go_wp2_with fail
  go_loopw [3, 11] (fun o i wr => ∃ (k : Nat) (O : List (List Int)), k ≤ ml ∧ i = .int .i64 k ∧ Hid (LmSt w wr n k L o O)) (fun _ i _ => ml - (intOf i).toNat)
  case atStart => exact ⟨0, [], Nat.zero_le _, rfl, ⟨none, 0, 0, rfl, rfl, .inl rfl⟩, MinUpto.first _ _, Below.refl _ _⟩
  case round =>
    obtain ⟨k, O, hk, rfl, st⟩ := hrel
    by_cases hlt : k < ml
    rotate_left
    · have hk' : k = ml := by omega
      subst hk'
      obtain ⟨a, q, c, rfl, hls⟩ := st.out.out
      have hmn := st.out.min
      rw [← HLE.out] at hmn
      have HE : Hid (∃ a' q' c' O', Ending.returned (.slice a q c) = .returned (.slice a' q' c') ∧ Lists wr a' q' O' ∧ MinOf n L O' ∧ Below w.heap.size w wr) := ⟨a, q, c, O, rfl, hls, hmn.done, st.out.bel⟩
      clear st hls hmn
      go_wp2_with fail
      go_ret
      exact HE.out
    have hlt' : k < L.length := by have := HLE.out; omega
    obtain ⟨b, off, a0, n0, c0, rfl, hb, hc0, m0, r0⟩ := (HL.out.below st.out.bel).at hlt
    obtain rfl : n0 = n := by have := HN.out _ (getD_mem hlt'); have := r0.1; omega
    obtain ⟨x, hx⟩ : ∃ x, Hid (L.getD k [] = x) := ⟨_, rfl⟩
    rw [hx.out] at r0
    have HR := hide r0
    clear r0 m0
    generalize wr = v0 at *
    obtain ⟨ao, qo, co, rfl, hlo⟩ := st.out.out
    have HO := hide hlo
    clear hlo
    go_wp2_with fail
    go_loopw [6, 17] (fun t i v => ∃ (j : Nat) (lb : Bool), j ≤ ml ∧ i = .int .i64 j ∧ t = .bool lb ∧ Hid (lb = leastU n0 L x j) ∧ Hid (Below v0.heap.size v0 v)) (fun _ i _ => ml - (intOf i).toNat)
    case atStart => exact ⟨0, true, Nat.zero_le _, rfl, rfl, rfl, Below.refl _ _⟩
    case round =>
      obtain ⟨j, lb, hj, rfl, rfl, hlb, hbv⟩ := hrel
      by_cases hjl : j < ml
      · have hjl' : j < L.length := by have := HLE.out; omega
        obtain ⟨b1, off1, a1, n1, c1, e1, hb1, hc1, m1, r1⟩ := (HL.out.below (st.out.bel.trans (hbv.out.mono st.out.bel.size))).at hjl
        obtain ⟨rfl, rfl⟩ : b = b1 ∧ off = off1 := by simpa using e1
        obtain rfl : n1 = n0 := by have := HN.out _ (getD_mem hjl'); have := r1.1; omega
        have hsu := leastU_succ (n := n1) (m := x) hjl'
        rw [← hlb.out] at hsu
        have HC := hide (covS_any a0 a1 n1 c0 c1 x (L.getD j []) _ (HR.out.below hbv.out) r1 hn)
        have HSM := hide (same_any a0 a1 n1 n1 c0 c1 x (L.getD j []) _ (HR.out.below hbv.out) r1 (by omega))
        have hcd : covF (getF x) (getF (L.getD j [])) n1 = covL n1 x (L.getD j []) := rfl
        rw [hcd] at HC
        clear r1 m1 hcd e1 hlb
        cases lb
        · have HX : Hid (false = leastU n1 L x (j + 1)) := by rw [hsu]; rfl
          clear HC HSM hsu
          go_wp2_with fail
          go_roundw
          case rel => exact ⟨j + 1, false, by omega, by go_num, rfl, HX, hbv⟩
          case measure => simp [intOf]; omega
        · cases hcv : covL n1 x (L.getD j [])
          · have HX : Hid (true = leastU n1 L x (j + 1)) := by rw [hsu, hcv]; rfl
            rw [hcv] at HC
            clear HSM hsu hcv
            go_wp2_with (go_at_call 90; refine HC.out.mono ?_; rintro e w' ⟨rfl, hw'⟩; have hw2 := hw'.symm; subst hw2; clear hw')
            go_roundw
            case rel => exact ⟨j + 1, true, by omega, by go_num, rfl, HX, hbv⟩
            case measure => simp [intOf]; omega
          · obtain ⟨sb, hsb⟩ : ∃ sb, Hid (sameB x (L.getD j []) = sb) := ⟨_, rfl⟩
            have HX : Hid (sb = leastU n1 L x (j + 1)) := by rw [hsu, hcv, hsb.out]; rfl
            rw [hcv] at HC
            rw [hsb.out] at HSM
            clear hsu hcv
            go_wp2_with (first
              | (go_at_call 90; refine HC.out.mono ?_; rintro e w' ⟨rfl, hw'⟩; have hw2 := hw'.symm; subst hw2; clear hw')
              | (go_at_call 91; refine HSM.out.mono ?_; rintro e w' ⟨rfl, qd, rfl⟩))
            have HBV := hide (hbv.out.trans ((below_drewN' _ qd).mono hbv.out.size))
            go_roundw
            case rel => exact ⟨j + 1, sb, by omega, by go_num, rfl, HX, HBV⟩
            case measure => simp [intOf]; omega
      · have hj' : j = ml := by omega
        subst hj'
        have HLB := hide hlb.out
        rw [← HLE.out, leastU_all, ← hx.out] at HLB
        cases lb
        · have ST := hide (LmSt.mk (w := w) (v := wr) ⟨ao, qo, co, rfl, HO.out.below hbv.out⟩ (st.out.min.skip hlt' HLB.out.symm) (st.out.bel.trans (hbv.out.mono st.out.bel.size)))
          clear hc0 st
          go_wp2_with fail
          go_roundw
          case rel => exact ⟨k + 1, O, by omega, by go_num, ST⟩
          case measure => simp [intOf]; omega
        · have HOW := hide (own3_any a0 n0 c0 x wr (HR.out.below hbv.out) (by omega))
          have hqo : qo ≤ 400 := by have h1 := HO.out.1; have h2 := st.out.min.2.2; omega
          clear hc0
          go_wp2_with fail
          refine HOW.out.mono ?_
          rintro e w2 ⟨a', c', rfl, hra, _, hb2⟩
          have hbb := hbv.out.trans (hb2.mono hbv.out.size)
          have HIO := hide (inOrder_any n0 ao qo co O a' c' x w2 (HO.out.below hbb) (st.out.min.len HN.out) hra st.out.min.1 hn hqo)
          clear HOW hra
          go_wp2_with fail
          refine HIO.out.mono ?_
          rintro e w3 ⟨a3, q3, c3, R, rfl, hl3, hin, hb3⟩
          rw [← hx.out] at hin
          have ST := hide (LmSt.mk (w := w) (v := w3) ⟨a3, q3, c3, rfl, hl3⟩ (st.out.min.put HN.out hlt' HLB.out.symm hin) (st.out.bel.trans ((hbb.trans (hb3.mono hbb.size)).mono st.out.bel.size)))
          clear st hl3 hin hb3 hbb hb2 HIO
          go_wp2_with fail
          go_roundw
          case rel => exact ⟨k + 1, R, by omega, by go_num, ST⟩
          case measure => simp [intOf]; omega

/-- How the specification's LeastMarks ends. -/
def LuEnd (ok : Bool) (R : List (List Int)) (w : World) (e : Ending) (w' : World) : Prop := ∃ a c, e = .returned (.tuple #[.slice a R.length c, .bool ok]) ∧ Lists w' a R.length R ∧ Below w.heap.size w w'

theorem luEnd_no {p : Int} {L : List (List Int)} {w w' : World} (h : okL p L = false) (hb : Below w.heap.size w w') : LuEnd (okL p L) (leastR p L) w (.returned (.tuple #[.slice none 0 0, .bool false])) w' := by
  have hr : leastR p L = [] := by unfold leastR; rw [h]; rfl
  rw [h, hr]
  exact ⟨none, 0, rfl, ⟨rfl, .inl rfl⟩, hb⟩

set_option maxHeartbeats 1000000 in
theorem leastS_any (p : Int) (a : Option Addr) (m c : Nat) (L : List (List Int)) (w : World) (h : Lists w a m L) (hs : sizeN m L ≤ 1048576) :
    Calls Try.prog 22 #[.int .i64 p, .slice a m c] w fun e w' => LuEnd (okL p L) (leastR p L) w e w' := by
  have hm := h.1
  have hm20 : m ≤ 1048576 := by unfold sizeN at hs; omega
  cases hp : inB p 1 16
  · have HG := hide (luEnd_no (okL_no1 (L := L) hp) (Below.refl w.heap.size w))
    clear h hs
    go_enter Try.func22, Try.ntmps22
    go_wp2_with (go_at_call 52; refine (places_any _ _).mono ?_; rintro e w' ⟨rfl, rfl⟩)
    go_ret2
    exact HG.out
  by_cases h4 : m ≤ 400
  rotate_left
  · have HG := hide (luEnd_no (okL_no2 (p := p) (L := L) (by omega)) (Below.refl w.heap.size w))
    clear h hs
    go_enter Try.func22, Try.ntmps22
    go_wp2_with (go_at_call 52; refine (places_any _ _).mono ?_; rintro e w' ⟨rfl, rfl⟩)
    go_ret2
    exact HG.out
  have hp2 := hp
  simp [inB] at hp2
  have hn16 : p.toNat ≤ 16 := by omega
  have HP := hide hp
  have HL := hide h
  have HM := hide hm
  have HS := hide hs
  clear h hm hs hp2
  go_enter Try.func22, Try.ntmps22
  go_wp2_with (go_at_call 52; refine (places_any _ _).mono ?_; rintro e w' ⟨rfl, hw'⟩; have hw2 := hw'.symm; subst hw2; clear hw')
  go_loopw [18] (fun i v => ∃ k : Nat, k ≤ m ∧ i = .int .i64 k ∧ Hid (∀ j, j < k → goodB p (L.getD j []) = true) ∧ Hid (Below w.heap.size w v)) (fun i _ => m - (intOf i).toNat)
  case atStart => exact ⟨0, Nat.zero_le _, rfl, fun j hj => absurd hj (by omega), Below.refl _ _⟩
  case round =>
    obtain ⟨k, hk, rfl, hgu, hbv⟩ := hrel
    clear hp
    by_cases hlt : k < m
    · obtain ⟨b, off, a0, n0, c0, rfl, hb, hc0, m0, r0⟩ := (HL.out.below hbv.out).at hlt
      have hl0 := len_le L k
      have hs' : m + sizeL L ≤ 1048576 := HS.out
      have q0 : n0 ≤ 1048576 := by have := r0.1; omega
      have HT := hide (goodS_any p a0 n0 c0 _ wr r0 q0)
      clear r0 hl0 q0 hs' m0
      cases hg : goodB p (L.getD k [])
      · have HE := hide (luEnd_no (w := w) (okL_no3 (p := p) (L := L) (k := k) (by have := HM.out; omega) hg) hbv.out)
        rw [hg] at HT
        clear hg
        go_wp2_with fail
        refine HT.out.mono ?_
        rintro e w' ⟨rfl, hb'⟩
        rw [hb']
        clear hb' HT
        go_wp2_with fail
        go_ret2
        exact HE.out
      · have HG : Hid (∀ j, j < k + 1 → goodB p (L.getD j []) = true) := fun j hj => by
          by_cases e : j = k
          · subst e; exact hg
          · exact hgu.out j (by omega)
        rw [hg] at HT
        clear hg
        go_wp2_with fail
        refine HT.out.mono ?_
        rintro e w' ⟨rfl, hb'⟩
        rw [hb']
        clear hb' HT hc0
        go_wp2_with fail
        go_roundw
        case rel => exact ⟨k + 1, by omega, by go_num, HG, hbv⟩
        case measure => simp [intOf]; omega
    · have hk' : k = m := by omega
      subst hk'
      have HOK : Hid (okL p L = true) := okL_yes HP.out (by have := HM.out; omega) fun j hj => hgu.out j (by have := HM.out; omega)
      have HT := hide (leastB_any p.toNat a k c L wr (HL.out.below hbv.out) (fun x hx => good_len (okL_all HOK.out x hx)) hn16 h4)
      go_wp2_with fail
      refine HT.out.mono ?_
      rintro e w' ⟨a', q', c', O, rfl, hls, hmin, hb'⟩
      have HE : Hid (LuEnd (okL p L) (leastR p L) w (.returned (.tuple #[.slice a' q' c', .bool true])) w') := by
        have e1 : O = leastR p L := by unfold leastR; rw [if_pos HOK.out]; exact hmin.least
        have e2 := hls.1
        subst e2
        rw [← e1, HOK.out]
        exact ⟨a', c', rfl, hls, hbv.out.trans (hb'.mono hbv.out.size)⟩
      clear HT hls hmin hb'
      go_wp2_with fail
      go_ret2
      exact HE.out
end Go.Proofs.Ytedbihlpggficaa


/- How a slice of lists that comes in is opened. -/
namespace Go.Proofs.Ytedbihlpggficaa
open Go.ChangeShapes Go.WideShapes Go.ChangeAt Go.RowKit Go.Deep Go.Joins

theorem lists_of {H : Type} {enc : TypeId × Value → H} {W : World} {base fuel : Nat} {v : Value} {x : DataW H × List MemPlace} (h : DataW.trod enc Try.prog W base (fun _ => true) true fuel 27 [v] = some x) :
    ∃ a n c L, v = .slice a n c ∧ n ≤ maxLen ∧ Lists W a n L := by
  have hC : Try.prog.cellsOf 25 = 1 := by kernel_rfl
  rcases open_slice Try.underlying27 h with ⟨hcs, _⟩ | ⟨a, len, cap, q, n', D, Pl, hcs, hb, hl, hm, hq, _, hel⟩
  · simp at hcs
    subst hcs
    exact ⟨none, 0, 0, [], rfl, Nat.zero_le _, rfl, .inl rfl⟩
  · simp at hcs
    subst hcs
    simp at hq
    subst hq
    rw [hC] at hel
    have key : ∀ i, i < len → ∃ t : Option Addr × Nat × Nat × List Int, W.cell? (a.add i) = some (.slice t.1 t.2.1 t.2.2.1) ∧ t.2.1 ≤ maxLen ∧ Row W t.1 t.2.1 t.2.2.2 := by
      intro i hi
      obtain ⟨cs', hc1, hc2⟩ := hel i (by omega)
      obtain ⟨_, hlen, hcell⟩ := World.cells?_some hc1
      match cs', hlen with
      | [u0], _ =>
        obtain ⟨a0, n0, c0, x0, rfl, l0, r0⟩ := row_of_ints hc2
        have w0 := hcell 0 (by omega)
        simp at w0
        exact ⟨(a0, n0, c0, x0), by simpa [Addr.add] using w0, l0, r0⟩
    obtain ⟨f, hf⟩ := choose_lt key
    refine ⟨some a, len, _, (List.range len).map fun j => (f j).2.2.2, rfl, by omega, by simp, ?_⟩
    by_cases h0 : len = 0
    · exact .inl h0
    · obtain ⟨b, off, spot⟩ := a
      have hc := (hf 0 (by omega)).1
      have hspot : spot = none := by simpa [Addr.add] using World.cell?_spot hc
      subst hspot
      refine .inr ⟨b, off, rfl, ?_, fun j hj => ?_⟩
      · have := block_lt_of_cell hc; simpa [Addr.add] using this
      · have q0 := hf j hj
        simp only [Addr.add_mid] at q0
        simp only [List.getD_eq_getElem?_getD, List.getElem?_map, List.getElem?_range hj, Option.map_some, Option.getD_some]
        exact ⟨_, _, _, q0⟩
end Go.Proofs.Ytedbihlpggficaa


/- LeastMarks' law: how great the answer is; what the law keeps in mind. -/
namespace Go.Proofs.Ytedbihlpggficaa
open Go.RowKit

theorem min_exists {n : Nat} {L : List (List Int)} (hl : ∀ x ∈ L, x.length = n) : ∃ R, MinOf n L R ∧ R.length ≤ L.length := by
  have hm : ∀ x, x ∈ L.mergeSort (fun x y => decide (cmpL n x y ≤ 0)) ↔ x ∈ L := fun x => (List.mergeSort_perm L _).mem_iff
  have hs : (L.mergeSort (fun x y => decide (cmpL n x y ≤ 0))).Pairwise fun x y => ¬ cmpL n y x < 0 := by
    have := List.pairwise_mergeSort (le := fun x y => decide (cmpL n x y ≤ 0)) (fun a b c h1 h2 => by
      simp only [decide_eq_true_eq] at *; exact cmpL_le h1 h2) (fun a b => by
      have := cmpL_anti n a b
      simp only [Bool.or_eq_true, decide_eq_true_eq]
      omega) L
    refine this.imp fun {x y} h => ?_
    simp only [decide_eq_true_eq] at h
    rw [cmpL_anti n x y]
    omega
  refine ⟨_, (keep_min (fun x hx => hl x ((hm x).mp hx)) hs).perm hm, ?_⟩
  have := keepL_len n (L.mergeSort (fun x y => decide (cmpL n x y ≤ 0))) _ (Nat.le_refl _)
  rw [List.take_length] at this
  simpa using this

theorem leastR_min {p : Int} {L : List (List Int)} (h : okL p L = true) : MinOf p.toNat L (leastR p L) ∧ (leastR p L).length ≤ L.length := by
  obtain ⟨R, h1, h2⟩ := min_exists (n := p.toNat) fun x hx => good_len (okL_all h x hx)
  have e : leastR p L = R := by unfold leastR; rw [if_pos h]; exact h1.least.symm
  rw [e]
  exact ⟨h1, h2⟩

theorem leastR_no {p : Int} {L : List (List Int)} (h : okL p L = false) : leastR p L = [] := by unfold leastR; rw [h]; rfl

theorem sizeL_le {R : List (List Int)} (h : ∀ x ∈ R, x.length ≤ 16) : sizeL R ≤ 16 * R.length := by
  induction R with
  | nil => simp [sizeL]
  | cons a R ih =>
    have h1 := h a (by simp)
    have h2 := ih fun x hx => h x (List.mem_cons_of_mem _ hx)
    simp only [sizeL, List.map_cons, List.sum_cons, List.length_cons] at *
    omega

theorem leastR_size (p : Int) (L : List (List Int)) : (leastR p L).length ≤ 400 ∧ sizeL (leastR p L) ≤ 6400 := by
  cases h : okL p L
  · rw [leastR_no h]; exact ⟨by simp, by simp [sizeL]⟩
  · obtain ⟨h1, h2⟩ := leastR_min h
    have h4 : L.length ≤ 400 := by unfold okL at h; simp only [Bool.and_eq_true, decide_eq_true_eq] at h; exact h.1.2
    have hp : p.toNat ≤ 16 := by unfold okL at h; simp only [Bool.and_eq_true] at h; have := h.1.1; simp [inB] at this; omega
    have := sizeL_le (R := leastR p L) fun x hx => by
      have := good_len (okL_all h x (((h1.2 x).mp hx).1)); omega
    omega

theorem cntF_size1 (L : List (List Int)) (k : Nat) (h : k ≤ L.length) : cntF (fun j => L.getD j []) k = sizeL (L.take k) := by
  induction k with
  | zero => simp [cntF, sizeL]
  | succ k ih => simp only [cntF]; rw [ih (by omega), sizeL_take_succ L k (by omega)]

theorem cntF_all1 {L : List (List Int)} {n : Nat} (hl : L.length = n) : cntF (fun j => L.getD j []) n = sizeL L := by
  rw [cntF_size1 L n (by omega), List.take_of_length_le (by omega)]

theorem PartF.lists1 {w : World} {B hi n : Nat} {T : TypeId} {L : List (List Int)} (h : PartF w B hi n T (fun j => L.getD j [])) (hl : L.length = n) (hs : sizeN n L ≤ 1048576) : Lists w (some ⟨B, 0, none⟩) n L := by
  obtain ⟨C, f, h1, h2, h3, h4⟩ := h
  refine ⟨hl, .inr ⟨B, 0, rfl, (Array.getElem?_eq_some_iff.mp h1).1, fun j hj => ?_⟩⟩
  obtain ⟨e1, e2, e3, e4⟩ := h3 j hj
  refine ⟨_, _, _, by rw [cell_of_row w B (0 + j) C T _ h1, Nat.zero_add]; exact e1, ?_, e4.row⟩
  have := len_le L j
  show (L.getD j []).length ≤ maxLen
  unfold sizeN at hs; unfold maxLen; omega

theorem NetF.lists1 {w : World} {a : Option Addr} {B hi n : Nat} {L : List (List Int)} (h : NetF w a B hi n (fun j => L.getD j [])) (hl : L.length = n) (hs : sizeN n L ≤ 1048576) : Lists w a n L := by
  rcases h with h0 | ⟨rfl, hp⟩
  · exact ⟨hl, .inl h0⟩
  · exact hp.lists1 hl hs

theorem NetF.grow {w w' : World} {a : Option Addr} {B hi n : Nat} {M : Nat → List Int} (h : NetF w a B hi n M) (hb : Below w.heap.size w w') : NetF w' a B hi n M := by
  rcases h with h0 | ⟨e, hp⟩
  · exact .inl h0
  · exact .inr ⟨e, hp.grow hb⟩

theorem PartF.over {w w' : World} {B hi n lo hi' : Nat} {T : TypeId} {M : Nat → List Int} (h : PartF w B hi n T M) (hk : Keeps lo hi' w w') (hB : hi' ≤ B) : PartF w' B hi n T M := by
  obtain ⟨C, f, h1, h2, h3, h4⟩ := h
  refine ⟨C, f, (hk.top B hB (Array.getElem?_eq_some_iff.mp h1).1).trans h1, h2, fun j hj => ?_, h4⟩
  obtain ⟨e1, e2, e3, e4⟩ := h3 j hj
  exact ⟨e1, e2, e3, e4.keeps hk (by omega)⟩

theorem NetF.over {w w' : World} {a : Option Addr} {B hi n lo hi' : Nat} {M : Nat → List Int} (h : NetF w a B hi n M) (hk : Keeps lo hi' w w') (hB : hi' ≤ B) : NetF w' a B hi n M := by
  rcases h with h0 | ⟨e, hp⟩
  · exact .inl h0
  · exact .inr ⟨e, hp.over hk hB⟩

/-- w: the world ahead of the law; u: behind the specification's answer; v: now. -/
structure Sx (w u v : World) (B hi n : Nat) (M : Nat → List Int) (ag : Option Addr) (Bg hig N : Nat) (Mg : Nat → List Int) : Prop where
  old : Below w.heap.size w v
  mid : Below u.heap.size u v
  net : PartF v B hi n 25 M
  gn : NetF v ag Bg hig N Mg

section
variable {w u v v' : World} {B hi n : Nat} {M M' : Nat → List Int} {ag : Option Addr} {Bg hig N : Nat} {Mg Mg' : Nat → List Int}

theorem Sx.grow (h : Sx w u v B hi n M ag Bg hig N Mg) (hb : Below v.heap.size v v') : Sx w u v' B hi n M ag Bg hig N Mg :=
  ⟨h.old.trans (hb.mono h.old.size), h.mid.trans (hb.mono h.mid.size), h.net.grow hb, h.gn.grow hb⟩

theorem Sx.markN (h : Sx w u v B hi n M ag Bg hig N Mg) (hm : PartF v' B hi n 25 M') (hk : Keeps (B + 1) hi v v') (h1 : w.heap.size ≤ B) (h2 : u.heap.size ≤ B) (hg : hi ≤ Bg) : Sx w u v' B hi n M' ag Bg hig N Mg :=
  ⟨h.old.trans (hk.bel.mono (by omega)), h.mid.trans (hk.bel.mono (by omega)), hm, h.gn.over hk hg⟩
end

/-- .. when the argument's copy is no more asked for. -/
structure Sy (w u v : World) (ag : Option Addr) (Bg hig N : Nat) (Mg : Nat → List Int) : Prop where
  old : Below w.heap.size w v
  mid : Below u.heap.size u v
  gn : NetF v ag Bg hig N Mg

theorem Sy.grow {w u v v' : World} {ag : Option Addr} {Bg hig N : Nat} {Mg : Nat → List Int} (h : Sy w u v ag Bg hig N Mg) (hb : Below v.heap.size v v') : Sy w u v' ag Bg hig N Mg :=
  ⟨h.old.trans (hb.mono h.old.size), h.mid.trans (hb.mono h.mid.size), h.gn.grow hb⟩

theorem Sx.markG {w u v v' : World} {B hi n : Nat} {M : Nat → List Int} {ag : Option Addr} {Bg hig N : Nat} {Mg Mg' : Nat → List Int} (h : Sx w u v B hi n M ag Bg hig N Mg) (hm : NetF v' ag Bg hig N Mg') (hk : Keeps (Bg + 1) hig v v') (h1 : w.heap.size ≤ Bg) (h2 : u.heap.size ≤ Bg) : Sy w u v' ag Bg hig N Mg' :=
  ⟨h.old.trans (hk.bel.mono (by omega)), h.mid.trans (hk.bel.mono (by omega)), hm⟩
end Go.Proofs.Ytedbihlpggficaa
