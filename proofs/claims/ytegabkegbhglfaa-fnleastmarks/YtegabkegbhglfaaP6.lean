/- Contracts that the proof stands on, one behind the other. -/
import Derived.Test.YtegabkegbhglfaaP5
import Derived.Maps.AppendAt
/- The program's LeastMarks, walked. -/
namespace Go.Proofs.Ytegabkegbhglfaa
open Go.RowKit Go.Sort Go.Shelf
set_option maxRecDepth 10000

theorem there_made (w : World) (z : Array Value) (n : Nat) (T : TypeId) : (w.alloc (.cells (madeCells z n) T)).there w.heap.size 0 n :=
  there_of_row (heap_alloc_new w _) (by rw [size_madeCells]; omega)

theorem below_store {D : Nat} {a w : World} (h : Below D a w) {B : Nat} (hB : D ≤ B) (o : Nat) (vs : List Value) : Below D a (w.setCells B o vs) := below_setCells h B o hB vs

/-- What is there while the marks are packed. -/
structure PkSt (w v : World) (B m k n : Nat) (p : Int) (L : List (List Int)) : Prop where
  all : AllT v B m k n L
  good : ∀ j, j < k → goodB p (L.getD j []) = true
  bel : Below w.heap.size w v
  hB : w.heap.size ≤ B

theorem PkSt.grow {w v v' : World} {B m k n : Nat} {p : Int} {L : List (List Int)} (h : PkSt w v B m k n p L) (hb : Below v.heap.size v v') : PkSt w v' B m k n p L :=
  ⟨h.all.grow hb, h.good, h.bel.trans (hb.mono h.bel.size), h.hB⟩

theorem PkSt.step {w v : World} {B m k n : Nat} {p : Int} {L : List (List Int)} (h : PkSt w v B m k n p L) (hk : k < m) {t : List Int} (ht : L.getD k [] = t) (hg : goodB p t = true) : PkSt w (v.setCells B (k * 16) (packOf t n).toList) B m (k + 1) n p L := by
  refine ⟨h.all.step hk ht, fun j hj => ?_, below_setCells h.bel B _ h.hB _, h.hB⟩
  by_cases e : j = k
  · subst e; rw [ht]; exact hg
  · exact h.good j (by omega)

theorem ljEnd_yes {p : Int} {L K : List (List Int)} {w w' : World} {B q : Nat} (hok : okL p L = true) (hK : K = leastR p L) (hq : K.length = q) (hp : PartL w' B q q 30 K) (hB : w.heap.size ≤ B) (hb : Below w.heap.size w w') :
    LjEnd (okL p L) (leastR p L) w (.returned (.tuple #[.slice (some ⟨B, 0, none⟩) q q, .bool true])) w' := by
  subst hq
  rw [← hK, hok]
  exact ⟨_, B, w'.heap.size, _, rfl, .inr ⟨rfl, hp.bound⟩, hB, Nat.le_refl _, hb, Nat.le_refl _⟩

theorem PartL.first {w : World} {q : Nat} {z : Array Value} {K : List (List Int)} : PartL (w.alloc (.cells (madeCells z q) 30)) w.heap.size q 0 30 K :=
  ⟨_, fun _ => 0, heap_alloc_new _ _, by rw [size_madeCells], fun j hj => absurd hj (by omega), fun i j _ hj => absurd hj (by omega)⟩

theorem listT_any (t : List Int) (n : Nat) (W : World) (hn : n ≤ 16) (hg : goodB n t = true) :
    Calls Try.prog 74 #[.agg (packOf t n), .int .i64 (n : Int)] W fun e w' => ∃ b0, e = .returned (.slice (some ⟨b0, 0, none⟩) n n) ∧ W.heap.size ≤ b0 ∧ w'.heap[b0]? = some (.cells (cellsOf t) 3 (0, 0)) ∧ Below W.heap.size W w' := by
  refine (list_any (fOf t n) n W hn (good_small hg n)).mono ?_
  rintro e w' ⟨rfl, rfl⟩
  have hl : t.length = n := by have := good_len hg; omega
  refine ⟨_, rfl, by omega, ?_, ((Below.refl _ _).alloc (Nat.le_refl _) _).alloc (by simp) _⟩
  rw [listF_of hl]
  have := heap_alloc_new (W.alloc (.cells (tokF (fOf t n)) 82)) (.cells (cellsOf t) 3)
  simpa using this

set_option maxHeartbeats 400000 in
theorem leastI_any (p : Int) (a : Option Addr) (m c : Nat) (L : List (List Int)) (w : World) (h : Lists w a m L) (hs : sizeN m L ≤ 1048576) :
    Calls Try.prog 10 #[.int .i64 p, .slice a m c] w fun e w' => LjEnd (okL p L) (leastR p L) w e w' := by
  have hm := h.1
  have hm20 : m ≤ 1048576 := by unfold sizeN at hs; omega
  cases hp : inB p 1 16
  · have HG := hide (ljEnd_no (okL_no1 (L := L) hp) (Below.refl w.heap.size w))
    clear h hs
    go_enter Try.func10, Try.ntmps10
    go_wp2_with (go_at_call 54; refine (goodPlaces_any _ _).mono ?_; rintro e w' ⟨rfl, rfl⟩)
    go_ret2
    exact HG.out
  by_cases h4 : m ≤ 400
  rotate_left
  · have HG := hide (ljEnd_no (okL_no2 (p := p) (L := L) (by omega)) (Below.refl w.heap.size w))
    clear h hs
    go_enter Try.func10, Try.ntmps10
    go_wp2_with (go_at_call 54; refine (goodPlaces_any _ _).mono ?_; rintro e w' ⟨rfl, rfl⟩)
    go_ret2
    exact HG.out
  obtain ⟨n, hn⟩ : ∃ n : Nat, p = (n : Int) := ⟨p.toNat, by simp [inB] at hp; omega⟩
  subst hn
  have hn16 : n ≤ 16 := by simp [inB] at hp; omega
  have HP := hide hp
  have HL := hide h
  have HM := hide hm
  have HS := hide hs
  have hmk := run_make_many (P := Try.prog) 80 82 _ 16 16 Try.underlying80 Try.infoT .i64 .i64 m (by omega) (by omega)
  simp only [Value.cells] at hmk
  clear h hm hs
  go_enter Try.func10, Try.ntmps10
  go_wp2_with (go_at_call 54; refine (goodPlaces_any _ _).mono ?_; rintro e w' ⟨rfl, hw'⟩; have hw2 := hw'.symm; subst hw2)
  go_loopw [24] (fun i wr => ∃ k : Nat, k ≤ m ∧ i = .int .i64 k ∧ Hid (PkSt w wr w.heap.size m k n n L)) (fun i _ => m - (intOf i).toNat)
  case atStart => exact ⟨0, Nat.zero_le _, rfl, ⟨by simp, there_made _ _ _ _, fun j hj => absurd hj (by omega)⟩, fun j hj => absurd hj (by omega), (Below.refl _ _).alloc (Nat.le_refl _) _, Nat.le_refl _⟩
  case round =>
    obtain ⟨k, hk, rfl, st⟩ := hrel
    clear hmk hp
    by_cases hlt : k < m
    · obtain ⟨b, off, a0, n0, c0, rfl, hb, hc0, m0, r0⟩ := (HL.out.below st.out.bel).at hlt
      have hl0 := len_le L k
      have hs' : m + sizeL L ≤ 1048576 := HS.out
      obtain ⟨t, ht⟩ : ∃ x, Hid (L.getD k [] = x) := ⟨_, rfl⟩
      rw [ht.out] at r0 hl0
      have q0 : n0 ≤ 1048576 := by have := r0.1; omega
      have HT := hide (tokens_any n a0 n0 c0 t wr r0 q0)
      have R0 := hide r0.1
      clear r0 hl0 q0 hs'
      go_wp2_with fail
      refine HT.out.mono ?_
      rintro e w1 ⟨m', rfl, hm', hb1⟩
      have hg0 := heap_alloc_new w1 (.cells #[.int .u8 0, .int .u8 0, .int .u8 0, .int .u8 0, .int .u8 0, .int .u8 0, .int .u8 0, .int .u8 0, .int .u8 0, .int .u8 0, .int .u8 0, .int .u8 0, .int .u8 0, .int .u8 0, .int .u8 0, .int .u8 0] 82)
      cases hgd : goodB n t
      · have HE := hide (ljEnd_no (okL_no3 (p := n) (L := L) (k := k) (by have := HM.out; omega) (by rw [ht.out]; exact hgd)) (st.out.bel.trans ((hb1.trans ((below_box w1 (packOf t m') (.cells #[.int .u8 0, .int .u8 0, .int .u8 0, .int .u8 0, .int .u8 0, .int .u8 0, .int .u8 0, .int .u8 0, .int .u8 0, .int .u8 0, .int .u8 0, .int .u8 0, .int .u8 0, .int .u8 0, .int .u8 0, .int .u8 0] 82)).mono hb1.size)).mono st.out.bel.size)))
        clear hb1 HT st hgd hc0
        go_wp2_with (refine wpList_store_row rfl 82 (.tmp 9) _ rfl _ _ rfl rfl 82 _ hg0 (by rw [packOf_size]; exact Try.size82) (by rw [packOf_size]; rfl) (packOf_one _ _) ?_)
        go_ret2
        exact HE.out
      have e1 := hm'.out hgd
      have e2 := good_len hgd
      have e3 := R0.out
      obtain rfl : m' = n := by omega
      have h9 := setRow_same hg0 (packOf t m')
      have ST := hide (st.out.grow (hb1.trans ((below_box w1 (packOf t m') (.cells #[.int .u8 0, .int .u8 0, .int .u8 0, .int .u8 0, .int .u8 0, .int .u8 0, .int .u8 0, .int .u8 0, .int .u8 0, .int .u8 0, .int .u8 0, .int .u8 0, .int .u8 0, .int .u8 0, .int .u8 0, .int .u8 0] 82)).mono hb1.size)))
      have hth := there_part ST.out.all.th (show k * 16 + (packOf t m').size ≤ m * 16 by rw [packOf_size]; omega)
      have ST2 := hide (ST.out.step hlt ht.out hgd)
      clear hb1 HT st hgd hc0 e1 e2 e3 hm' ST
      go_wp2_with (first
        | (show wpList _ _ _ (⟨none, .store 82 (.tmp 40) (.tmp 39), _, _, _, _⟩ :: _) _ _); refine wpList_store_mid rfl 82 (.tmp 40) (.tmp 39) rfl _ _ (packOf t m') rfl rfl hth (by rw [packOf_size]; exact Try.size82) (packOf_one _ _) ?_
        | (show wpList _ _ _ (⟨none, .store 82 (.tmp 9) (.tmp 33), _, _, _, _⟩ :: _) _ _); refine wpList_store_row rfl 82 (.tmp 9) _ rfl _ _ rfl rfl 82 _ hg0 (by rw [packOf_size]; exact Try.size82) (by rw [packOf_size]; rfl) (packOf_one _ _) ?_
        | (show wpList _ _ _ (⟨_, .load 82 (.tmp 9), _, _, _, _⟩ :: _) _ _); refine wpList_load_row rfl 82 (.tmp 9) rfl _ rfl 82 (packOf t m') (0, 0) _ h9 Try.underlying82 rfl (by rw [packOf_size]; exact Try.size82) ?_)
      go_roundw
      case rel => exact ⟨k + 1, by omega, by go_num, ST2⟩
      case measure => simp [intOf]; omega
    · have hk' : k = m := by omega
      subst hk'
      have HOK : Hid (okL n L = true) := okL_yes HP.out (by have := HM.out; omega) fun j hj => st.out.good j (by have := HM.out; omega)
      have HLE := hide (least_any n w.heap.size k k hn16 L wr st.out.all.lt (AllT.holds (by have := st.out.all; rw [← HM.out] at this; exact this)) HM.out h4)
      have HB1 := hide st.out.bel
      clear st
      go_wp2_with fail
      refine HLE.out.mono ?_
      rintro e w2 ⟨ds', al, q, cl, rfl, hlen, hmem, hpw, hq, hqL, hrow, hbel⟩
      have HK := hide (least_of HOK.out (show n = (n : Int).toNat by simp) hn16 hmem hpw)
      have HGD : Hid (∀ x ∈ keepL n ds', goodB n x = true) := fun x hx => okL_all HOK.out x ((hmem x).mp (by have := keepL_mem (n := n) (D := ds') ds'.length (Nat.le_refl _); rw [List.take_length] at this; exact this x hx))
      obtain ⟨K, hK⟩ : ∃ K, Hid (keepL n ds' = K) := ⟨_, rfl⟩
      rw [hK.out] at HK HGD hq hrow
      have HB2 := hide (HB1.out.trans hbel)
      have HR := hide hrow
      have HQ := hide hq
      have hq4 : q ≤ 400 := by have := HM.out; omega
      have hTK : TokL w2 al q n K := ⟨hq, by
        rcases Nat.eq_zero_or_pos q with h0 | h0
        · exact .inl h0
        · obtain ⟨b, off, ha, hbs, hr⟩ := hrow.at (show 0 < K.length by omega)
          refine .inr ⟨b, off, ha, hbs, fun k hk => ?_⟩
          obtain ⟨b', off', ha', _, hr'⟩ := hrow.at (show k < K.length by omega)
          rw [ha] at ha'
          simp only [Option.some.injEq, Addr.mk.injEq, and_true] at ha'
          obtain ⟨rfl, rfl⟩ := ha'
          exact hr'.out⟩
      have HLT := hide (listsTok_any n q cl al K w2 hTK hn16 hq4 (fun k hk => by
        have hg := HGD.out _ (getD_mem (show k < K.length by omega))
        exact ⟨by have := good_len hg; omega, (goodB_parts hg).2.2⟩))
      clear hlen hmem hpw hq hqL hrow hbel HLE HB1 hTK
      go_wp2_with fail
      refine HLT.out.mono ?_
      rintro e w3 ⟨M, rfl, hM, hPL, hbL⟩
      have HE := hide (ljEnd_yes HOK.out HK.out HQ.out hPL (Nat.le_trans HB2.out.size hM) (HB2.out.trans (hbL.mono HB2.out.size)))
      clear hM hPL hbL
      go_wp2_with fail
      go_ret2
      exact HE.out
end Go.Proofs.Ytegabkegbhglfaa


/- l1Put: a number put to its place in a list, once; the list that is answered is the one that came, or a new one. -/
namespace Go.Proofs.Ytegabkegbhglfaa
open Go.RowKit
set_option maxRecDepth 10000

/-- append, whatever is appended: nil, empty or not. -/
theorem wpList_append_any {P : Program} (w : World) {ops : Array Oper} {rest : List Oper} {o : Oper} {a : Act} {Q : Exit → Act → World → Prop} (hgd : o.guard = none) (s x : Operand) (t : TypeId)
    (ho : o.op = .call { callee := .builtin .append, args := #[s, x], argTypes := #[t, t] })
    (base : Nat) (e : TypeId) (i : TypeInfo) (z : Value) (size bytes : Nat) (ht : P.underlying t = some (.slice e)) (hi : P.info? e = some i) (hz : i.zero = some z)
    (hsize : i.size = size) (hby : i.bytes = bytes) (hzs : z.cells.size = size) (hsz : 0 < size)
    (v : Value) (n : Nat) (xs : List Value) (hs : a.eval s = v) (hown : w.ownsRow base e size v n xs)
    (ao : Option Addr) (m c : Nat) (news : List Value) (hx : a.eval x = .slice ao m c) (hl : news.length = m * size) (hnone : ao = none → m = 0 ∧ c = 0)
    (hnews : ∀ ad, ao = some ad → ∀ j u, news[j]? = some u → w.cell? (ad.add j) = some u) (h1 : ∀ u ∈ news, u.oneCell' = true)
    (h63 : n + m ≤ maxLen) (hbytes : (n + m) * bytes ≤ 140737488355328) (hbase : base ≤ w.heap.size)
    (h : ∀ v' w', w'.ownsRow base e size v' (n + m) (xs ++ news) → w.grownBy w' v.ownBlock → wpList P ops Q rest (a.put o.dst v') w') : wpList P ops Q (o :: rest) a w := by
  cases ao with
  | some ad => exact wpList_append_own w hgd s x t ho base e i z size bytes ht hi hz hsize hby hzs hsz v n xs hs hown ad m c news hx hl (hnews ad rfl) h1 h63 hbytes hbase fun v' w' r1 r2 _ => h v' w' r1 r2
  | none =>
    obtain ⟨rfl, rfl⟩ := hnone rfl
    have hnews : news = [] := List.eq_nil_of_length_eq_zero (by simpa using hl)
    subst hnews
    refine wpList_plain hgd fun K hK' => ?_
    have hrun := run_append_owned_none (P := P) w base t o.type e i size ht hi _ n xs hown
    unfold Oper.wp
    simp [execOp, ho, resolve, invoke, builtin, hs, hx, hrun, Result.andThen]
    exact hK' _ _ (by simpa using h v w (by simpa using hown) (World.grownBy.refl _ _))

/-- How l1Put ends. -/
def PutEnd (n b : Nat) (w : World) (e : Ending) (w' : World) : Prop :=
  ∃ g n' c' ys, e = .returned (.slice (some ⟨g, 0, none⟩) n' c') ∧ 1 ≤ n' ∧ n' ≤ n + 1 ∧ n' ≤ c' ∧ c' ≤ maxLen ∧ Row w' (some ⟨g, 0, none⟩) n' ys ∧ (g = b ∨ w.heap.size ≤ g) ∧ Below w.heap.size w w'

theorem cells_upto {w : World} {a : Option Addr} {l i : Nat} {A : List Int} (h : Row w a l A) (hi : i ≤ l) : ∀ ad, a = some ad → ∀ t u, ((A.take i).map (Value.int .i64))[t]? = some u → w.cell? (ad.add t) = some u := by
  intro ad had t u hu
  have hA := h.1
  have ht : t < i := by
    have := (List.getElem?_eq_some_iff.1 hu).1
    simp at this; omega
  rcases h.2 with h0 | ⟨b, off, e, hl, hc⟩
  · omega
  · rw [e] at had
    obtain rfl := Option.some.inj had
    rw [Addr.add_mid, hc t (by omega), ← hu]
    simp [ht, show t < A.length by omega]

theorem cells_behind {w : World} {a : Option Addr} {l i : Nat} {A : List Int} (h : Row w a l A) (hi : i < l) : ∀ b off, a = some ⟨b, off, none⟩ → ∀ t u, ((A.drop i).map (Value.int .i64))[t]? = some u → w.cell? ((⟨b, off + i, none⟩ : Addr).add t) = some u := by
  intro b off had t u hu
  have hA := h.1
  have ht : t < l - i := by
    have := (List.getElem?_eq_some_iff.1 hu).1
    simp at this; omega
  rcases h.2 with h0 | ⟨b', off', e, hl, hc⟩
  · omega
  · rw [e] at had
    obtain ⟨rfl, rfl⟩ : b' = b ∧ off' = off := by simpa using had
    rw [Addr.add_mid, Nat.add_assoc, hc (i + t) (by omega), ← hu]
    simp [show i + t < A.length by omega]

theorem ownsRow_row2 {B : Nat} {w : World} {v : Value} {n : Nat} {l : List Int} (hown : w.ownsRow B 3 1 v n (l.map (Value.int .i64))) : ∃ a c, v = .slice a n c ∧ Row w a n l := by
  have hl : l.length = n := by have := hown.1; simpa using this
  rcases hown.2 with ⟨rfl, rfl⟩ | ⟨g, cap, cur, rfl, hb, hh, hnc, _, hsz, ht⟩
  · exact ⟨none, 0, rfl, hl, .inl rfl⟩
  · refine ⟨_, cap, rfl, hl, .inr ⟨g, 0, rfl, (Array.getElem?_eq_some_iff.mp hh).1, fun i hi => ?_⟩⟩
    rw [cell_of_row w g (0 + i) _ _ _ hh, Nat.zero_add]
    have e1 : (cur.toList.take (n * 1))[i]? = some (.int .i64 (l.getD i 0)) := by
      rw [ht]; simp [List.getElem?_map, List.getElem?_eq_getElem (show i < l.length by omega)]
    rw [List.getElem?_take_of_lt (by omega)] at e1
    simpa using e1

theorem putEnd_own {n b m : Nat} {w v : World} {u : Value} {ys : List Int} (hb : Below w.heap.size w v) (hown : v.ownsRow w.heap.size 3 1 u m (ys.map (Value.int .i64))) (hm : 1 ≤ m) (hmn : m ≤ n + 1) : PutEnd n b w (.returned u) v := by
  rcases hown.2 with ⟨_, h0⟩ | ⟨g, cap, cur, rfl, hbg, hh, hnc, hcm, hsz, ht⟩
  · omega
  · obtain ⟨a', c', e, hr⟩ := ownsRow_row2 hown
    obtain ⟨rfl, rfl⟩ : a' = some ⟨g, 0, none⟩ ∧ c' = cap := by simpa [eq_comm] using e
    exact ⟨g, m, _, ys, rfl, hm, hmn, hnc, hcm, hr, .inr hbg, hb⟩

/-- What is there while l1Put builds its list. -/
structure PutSt (w v : World) (u : Value) (m : Nat) (ys : List Int) : Prop where
  own : v.ownsRow w.heap.size 3 1 u m (ys.map (Value.int .i64))
  bel : Below w.heap.size w v

theorem PutSt.first (w : World) : PutSt w (w.alloc (.cells #[] 3)) (.slice (some ⟨w.heap.size, 0, none⟩) 0 0) 0 [] :=
  ⟨⟨rfl, .inr ⟨w.heap.size, 0, #[], rfl, Nat.le_refl _, heap_alloc_new _ _, Nat.le_refl _, Nat.zero_le _, rfl, rfl⟩⟩, below_al w _⟩
theorem PutSt.alloc {w v : World} {u : Value} {m : Nat} {ys : List Int} (h : PutSt w v u m ys) (o : Obj) : PutSt w (v.alloc o) u m ys := ⟨h.own.alloc o, h.bel.trans ((below_al v o).mono h.bel.size)⟩
theorem PutSt.step {w v v' : World} {u u' : Value} {m q : Nat} {ys zs : List Int} (h : PutSt w v u m ys) (r1 : v'.ownsRow w.heap.size 3 1 u' (m + q) (ys.map (Value.int .i64) ++ zs.map (Value.int .i64))) (r2 : v.grownBy v' u.ownBlock) : PutSt w v' u' (m + q) (ys ++ zs) :=
  ⟨by rw [List.map_append]; exact r1, h.bel.grown r2 h.bel.size fun k hk => (h.own.lt k hk).1⟩
theorem PutSt.done {w v : World} {u : Value} {m n b : Nat} {ys : List Int} (h : PutSt w v u m ys) (hm : 1 ≤ m) (hmn : m ≤ n + 1) : PutEnd n b w (.returned u) v := putEnd_own h.bel h.own hm hmn

set_option maxHeartbeats 1000000 in
theorem put_nil (x : Int) (w : World) :
    Calls Try.prog 135 #[.slice none 0 0, .int .i64 x] w fun e w' => PutEnd 0 w.heap.size w e w' := by
  obtain ⟨i0, hi, hz0, hz1, hz2⟩ := info_split Try.info3
  have P0 := hide (PutSt.first w)
  go_enter Try.func135, Try.ntmps135
  go_wp2_with fail
  go_loop [5] (fun i => i = .int .i64 0) (fun _ => 0)
  case atStart => rfl
  case round =>
    obtain rfl := hrel
    go_wp2_with (at_builtin; first
      | (refine wpList_append_any _ rfl (.tmp 34) (.tmp 37) 30 rfl w.heap.size 3 i0 (.int .i64 0) 1 8 Try.underlying30 hi hz0 hz1 hz2 rfl (by decide) (.slice (some ⟨w.heap.size, 0, none⟩) 0 0) 0 [] rfl P0.out.own none 0 0 [] rfl rfl (fun _ => ⟨rfl, rfl⟩) (fun ad h => by cases h) (by simp) (by unfold maxLen; omega) (by omega) (by simp) ?_; intro u1 W1 r1 r2; have P1 := hide ((P0.out.step (q := 0) (zs := []) r1 r2).alloc (.cells #[.int .i64 x] 3)); clear r1 r2)
      | (refine wpList_append_own _ rfl (.tmp 39) (.tmp 41) 30 rfl w.heap.size 3 i0 (.int .i64 0) 1 8 Try.underlying30 hi hz0 hz1 hz2 rfl (by decide) u1 _ _ rfl P1.out.own ⟨W1.heap.size, 0, none⟩ 1 1 [.int .i64 x] rfl rfl (cell_one_new _ _ _) (by simp [Value.oneCell']) (by unfold maxLen; omega) (by omega) (Nat.le_trans P1.out.bel.size (Nat.le_refl _)) ?_; intro u2 W2 r1 r2 _; have P2 := hide (P1.out.step (q := 1) (zs := [x]) r1 r2); clear r1 r2)
      | (refine wpList_append_any _ rfl (.tmp 43) (.tmp 46) 30 rfl w.heap.size 3 i0 (.int .i64 0) 1 8 Try.underlying30 hi hz0 hz1 hz2 rfl (by decide) u2 _ _ rfl P2.out.own none 0 0 [] rfl rfl (fun _ => ⟨rfl, rfl⟩) (fun ad h => by cases h) (by simp) (by unfold maxLen; omega) (by omega) P2.out.bel.size ?_; intro u3 W3 r1 r2; have P3 := hide (P2.out.step (q := 0) (zs := []) r1 r2); clear r1 r2))
    go_ret
    exact P3.out.done (by omega) (by omega)

set_option maxHeartbeats 2000000 in
theorem put_some (b n c : Nat) (xs : List Int) (x : Int) (w : World) (h : Row w (some ⟨b, 0, none⟩) n xs) (hn : n ≤ 1000) (hn1 : 1 ≤ n) (hc : n ≤ c) (hc2 : c ≤ maxLen) :
    Calls Try.prog 135 #[.slice (some ⟨b, 0, none⟩) n c, .int .i64 x] w fun e w' => PutEnd n b w e w' := by
  have HR := hide h
  have hlen := hide h.1
  unfold maxLen at hc2
  clear h
  obtain ⟨i0, hi, hz0, hz1, hz2⟩ := info_split Try.info3
  have P0 := hide (PutSt.first w)
  go_enter Try.func135, Try.ntmps135
  go_wp2_with fail
  go_loop [5] (fun i => ∃ k : Nat, k ≤ n ∧ i = .int .i64 k) (fun i => n - (intOf i).toNat)
  case atStart => exact ⟨0, Nat.zero_le _, rfl⟩
  case round =>
    obtain ⟨k, hk, rfl⟩ := hrel
    have HC1 := hide (fun W (hb : Below w.heap.size w W) => cells_upto (HR.out.below hb) hk _ rfl)
    by_cases hlt : k < n
    · obtain ⟨b1, o1, y, he, hl1, hc1, H1⟩ := HR.out.at hlt
      obtain ⟨rfl, rfl⟩ : b1 = b ∧ o1 = 0 := by simpa [eq_comm] using he
      rw [Nat.zero_add] at hc1
      have hki : (k : Int) < (n : Int) := by omega
      have hkn : k < n := hlt
      have hkc : ¬ c = k := by omega
      have HC2 := hide (fun W (hb : Below w.heap.size w W) => cells_behind (HR.out.below hb) hlt b1 0 rfl)
      rw [Nat.zero_add] at HC2
      clear he hlt
      by_cases hy : y < x
      · go_wp2_with fail
        go_round
        case rel => exact ⟨k + 1, by omega, by go_num⟩
        case measure => simp [intOf]; omega
      · by_cases hy2 : y = x
        · go_wp2_with fail
          go_ret
          exact ⟨b1, n, c, xs, rfl, hn1, by omega, hc, by unfold maxLen; omega, HR.out, .inl rfl, Below.refl _ _⟩
        · go_wp2_with (at_builtin; first
            | (refine wpList_append_any _ rfl (.tmp 34) (.tmp 37) 30 rfl w.heap.size 3 i0 (.int .i64 0) 1 8 Try.underlying30 hi hz0 hz1 hz2 rfl (by decide) (.slice (some ⟨w.heap.size, 0, none⟩) 0 0) 0 [] rfl P0.out.own (some ⟨b1, 0, none⟩) k c ((xs.take k).map (Value.int .i64)) rfl (by have := hlen.out; simp; omega) (fun h => by cases h) (fun ad h => by cases h; exact HC1.out _ P0.out.bel) (ints_oneCell _ _) (by unfold maxLen; omega) (by omega) (by simp) ?_; intro u1 W1 r1 r2; have P1 := hide ((P0.out.step (q := k) (zs := xs.take k) r1 r2).alloc (.cells #[.int .i64 x] 3)); clear r1 r2)
            | (refine wpList_append_own _ rfl (.tmp 39) (.tmp 41) 30 rfl w.heap.size 3 i0 (.int .i64 0) 1 8 Try.underlying30 hi hz0 hz1 hz2 rfl (by decide) u1 _ _ rfl P1.out.own ⟨W1.heap.size, 0, none⟩ 1 1 [.int .i64 x] rfl rfl (cell_one_new _ _ _) (by simp [Value.oneCell']) (by unfold maxLen; omega) (by omega) P1.out.bel.size ?_; intro u2 W2 r1 r2 _; have P2 := hide (P1.out.step (q := 1) (zs := [x]) r1 r2); clear r1 r2)
            | (refine wpList_append_own _ rfl (.tmp 43) (.tmp 46) 30 rfl w.heap.size 3 i0 (.int .i64 0) 1 8 Try.underlying30 hi hz0 hz1 hz2 rfl (by decide) u2 _ _ rfl P2.out.own ⟨b1, k, none⟩ (n - k) (c - k) ((xs.drop k).map (Value.int .i64)) rfl (by have := hlen.out; simp; omega) (HC2.out _ P2.out.bel) (ints_oneCell _ _) (by unfold maxLen; omega) (by omega) P2.out.bel.size ?_; intro u3 W3 r1 r2 _; have P3 := hide (P2.out.step (q := n - k) (zs := xs.drop k) r1 r2); clear r1 r2))
          go_ret
          exact P3.out.done (by omega) (by omega)
    · have hk' : k = n := by omega
      have hki : ¬ (k : Int) < (n : Int) := by omega
      subst hk'
      go_wp2_with (at_builtin; first
        | (refine wpList_append_any _ rfl (.tmp 34) (.tmp 37) 30 rfl w.heap.size 3 i0 (.int .i64 0) 1 8 Try.underlying30 hi hz0 hz1 hz2 rfl (by decide) (.slice (some ⟨w.heap.size, 0, none⟩) 0 0) 0 [] rfl P0.out.own (some ⟨b, 0, none⟩) k c ((xs.take k).map (Value.int .i64)) rfl (by have := hlen.out; simp; omega) (fun h => by cases h) (fun ad h => by cases h; exact HC1.out _ P0.out.bel) (ints_oneCell _ _) (by unfold maxLen; omega) (by omega) (by simp) ?_; intro u1 W1 r1 r2; have P1 := hide ((P0.out.step (q := k) (zs := xs.take k) r1 r2).alloc (.cells #[.int .i64 x] 3)); clear r1 r2)
        | (refine wpList_append_own _ rfl (.tmp 39) (.tmp 41) 30 rfl w.heap.size 3 i0 (.int .i64 0) 1 8 Try.underlying30 hi hz0 hz1 hz2 rfl (by decide) u1 _ _ rfl P1.out.own ⟨W1.heap.size, 0, none⟩ 1 1 [.int .i64 x] rfl rfl (cell_one_new _ _ _) (by simp [Value.oneCell']) (by unfold maxLen; omega) (by omega) P1.out.bel.size ?_; intro u2 W2 r1 r2 _; have P2 := hide (P1.out.step (q := 1) (zs := [x]) r1 r2); clear r1 r2)
        | (refine wpList_append_any _ rfl (.tmp 43) (.tmp 46) 30 rfl w.heap.size 3 i0 (.int .i64 0) 1 8 Try.underlying30 hi hz0 hz1 hz2 rfl (by decide) u2 _ _ rfl P2.out.own _ _ _ [] rfl (by simp) (by intro h; first | cases h | (split at h <;> cases h)) (by intro ad _ j u hu; simp at hu) (by simp) (by unfold maxLen; omega) (by omega) P2.out.bel.size ?_; intro u3 W3 r1 r2; have P3 := hide (P2.out.step (zs := []) r1 r2); clear r1 r2))
      all_goals go_ret
      all_goals exact P3.out.done (by omega) (by omega)
end Go.Proofs.Ytegabkegbhglfaa


/- The cursor that draws choices from bytes: next, pick, one, among, places and mark answer within their bounds, whatever the bytes, and write into nothing that was there but the cursor. -/
namespace Go.Proofs.Ytegabkegbhglfaa
open Go.RowKit

/-- A slice of bytes reads as the list bs. -/
def RowB (w : World) (a : Option Addr) (n : Nat) (bs : List Int) : Prop :=
  bs.length = n ∧ (∀ i, 0 ≤ bs.getD i 0 ∧ bs.getD i 0 ≤ 255) ∧ (n = 0 ∨ ∃ b off, a = some ⟨b, off, none⟩ ∧ b < w.heap.size ∧ ∀ i, i < n → w.cell? ⟨b, off + i, none⟩ = some (.int .u8 (bs.getD i 0)))

/-- The cursor lies in the block bc, over the bytes (ca, cn, cc), at the place p. -/
def Cur (w : World) (bc : Nat) (ca : Option Addr) (cn cc p : Nat) : Prop :=
  ∃ s : Int, w.heap[bc]? = some (.cells #[.slice ca cn cc, .int .i64 (p : Int), .int .u64 s] 75 (0, 0))

theorem cur_step {w : World} {bc : Nat} {t : TypeId} {A B C : Value} (h : w.heap[bc]? = some (.cells #[A, B, C] t (0, 0))) (q : Nat) (v u : Value) :
    (((w.drewN q).setCell ⟨bc, 1, none⟩ v).setCell ⟨bc, 2, none⟩ u).heap[bc]? = some (.cells #[A, v, u] t (0, 0)) := by
  have h1 := heap_setCell_same (w.drewN q) bc 1 _ _ v h
  have h2 := heap_setCell_same _ bc 2 _ _ u h1
  simpa using h2

/-- Nothing but the block b has turned, and no block is new. -/
structure OnlyC (b : Nat) (w w' : World) : Prop where
  os : w'.os = w.os
  tape : w'.tape = w.tape
  output : w'.output = w.output
  size : w'.heap.size = w.heap.size
  block : ∀ k, k ≠ b → w'.heap[k]? = w.heap[k]?

theorem OnlyC.refl (b : Nat) (w : World) : OnlyC b w w := ⟨rfl, rfl, rfl, rfl, fun _ _ => rfl⟩
theorem OnlyC.drewN {b : Nat} {w w' : World} (h : OnlyC b w w') (q : Nat) : OnlyC b w (w'.drewN q) := ⟨h.os, h.tape, h.output, h.size, h.block⟩
theorem OnlyC.setCell {b : Nat} {w w' : World} (h : OnlyC b w w') (o : Nat) (v : Value) : OnlyC b w (w'.setCell ⟨b, o, none⟩ v) :=
  ⟨h.os, h.tape, h.output, by rw [← h.size]; simp [World.setCell], fun k hk => (Below.heap_setCell _ _ _ _ hk).trans (h.block k hk)⟩

/-- How next ends. -/
def NextEnd (bc : Nat) (ca : Option Addr) (cn cc p : Nat) (w : World) (e : Ending) (w' : World) : Prop :=
  ∃ r : Int, e = .returned (.int .i64 r) ∧ (0 ≤ r ∧ r ≤ 255) ∧ Cur w' bc ca cn cc (p + 1) ∧ OnlyC bc w w'

theorem and255 (n : Int) : 0 ≤ wrap64 (bits .and .u64 n 255) ∧ wrap64 (bits .and .u64 n 255) ≤ 255 := by
  have h255 : (BitVec.ofInt 64 255).toNat = 2 ^ 8 - 1 := by decide
  have key : (BitVec.ofInt 64 n &&& BitVec.ofInt 64 255).toNat = (n % ((2 ^ 64 : Nat) : Int)).toNat % 2 ^ 8 := by
    rw [BitVec.toNat_and, BitVec.toNat_ofInt, h255, Nat.and_two_pow_sub_one_eq_mod]
  have e : bits .and .u64 n 255 = (((n % ((2 ^ 64 : Nat) : Int)).toNat % 2 ^ 8 : Nat) : Int) := by
    show IntKind.u64.wrap ((BitVec.ofInt 64 n &&& BitVec.ofInt 64 255).toNat : Nat) = _
    rw [key, IntKind.wrap_u64]
    omega
  rw [e]
  have : (n % ((2 ^ 64 : Nat) : Int)).toNat % 2 ^ 8 < 256 := Nat.mod_lt _ (by decide)
  generalize (n % ((2 ^ 64 : Nat) : Int)).toNat % 2 ^ 8 = m at *
  rw [IntWalk.wrap64_in _ ⟨by omega, by omega⟩]
  omega

set_option maxHeartbeats 1000000 in
theorem next_in (bc : Nat) (ca : Option Addr) (cn cc p : Nat) (s x : Int) (w : World)
    (h : w.heap[bc]? = some (.cells #[.slice ca cn cc, .int .i64 (p : Int), .int .u64 s] 75 (0, 0))) (hp : p ≤ 1000000) (_hn : cn ≤ 1048576)
    (hlt : p < cn) (b off : Nat) (ha : ca = some ⟨b, off, none⟩) (hx : w.cell? ⟨b, off + p, none⟩ = some (.int .u8 x)) (hx0 : 0 ≤ x ∧ x ≤ 255) :
    Calls Try.prog 105 #[.pointer (some ⟨bc, 0, none⟩)] w fun e w' => NextEnd bc ca cn cc p w e w' := by
  subst ha
  have c0 : w.cell? ⟨bc, 0, none⟩ = some (.slice (some ⟨b, off, none⟩) cn cc) := cell_of_row w bc 0 _ _ _ h
  have c1 : w.cell? ⟨bc, 1, none⟩ = some (.int .i64 (p : Int)) := cell_of_row w bc 1 _ _ _ h
  have c2 : w.cell? ⟨bc, 2, none⟩ = some (.int .u64 s) := cell_of_row w bc 2 _ _ _ h
  have f1 := frozen_of_row w bc 1 _ _ h
  have f2 := frozen_of_row w bc 2 _ _ h
  have hi : (p : Int) < (cn : Int) := by omega
  have HS := hide (fun q v u => cur_step h q v u)
  clear h
  go_enter Try.func105, Try.ntmps105
  go_wp2
  go_quiet (fail)
  go_wp2
  go_quiet (fail)
  go_wp2
  go_quiet (fail)
  go_wp2
  go_ret
  exact ⟨x, rfl, hx0, ⟨_, HS.out _ _ _⟩, ((((OnlyC.refl bc w).drewN _).setCell 1 _).setCell 2 _).drewN _⟩

set_option maxHeartbeats 1000000 in
theorem next_out (bc : Nat) (ca : Option Addr) (cn cc p : Nat) (s : Int) (w : World)
    (h : w.heap[bc]? = some (.cells #[.slice ca cn cc, .int .i64 (p : Int), .int .u64 s] 75 (0, 0))) (hp : p ≤ 1000000) (_hn : cn ≤ 1048576)
    (hlt : ¬ p < cn) :
    Calls Try.prog 105 #[.pointer (some ⟨bc, 0, none⟩)] w fun e w' => NextEnd bc ca cn cc p w e w' := by
  have c0 : w.cell? ⟨bc, 0, none⟩ = some (.slice ca cn cc) := cell_of_row w bc 0 _ _ _ h
  have c1 : w.cell? ⟨bc, 1, none⟩ = some (.int .i64 (p : Int)) := cell_of_row w bc 1 _ _ _ h
  have c2 : w.cell? ⟨bc, 2, none⟩ = some (.int .u64 s) := cell_of_row w bc 2 _ _ _ h
  have f1 := frozen_of_row w bc 1 _ _ h
  have f2 := frozen_of_row w bc 2 _ _ h
  have hi : ¬ (p : Int) < (cn : Int) := by omega
  have HS := hide (fun q v u => cur_step h q v u)
  clear h
  go_enter Try.func105, Try.ntmps105
  go_wp2
  go_quiet (fail)
  go_wp2
  go_quiet (fail)
  go_wp2
  go_ret
  exact ⟨_, rfl, and255 _, ⟨_, HS.out _ _ _⟩, ((((OnlyC.refl bc w).drewN _).setCell 1 _).setCell 2 _).drewN _⟩

/-- The bytes lie in another block than the cursor's. -/
def Apart (ca : Option Addr) (cn bc : Nat) : Prop := 0 < cn → ∀ x, ca = some x → x.block ≠ bc

theorem RowB.keep {w w' : World} {ca : Option Addr} {cn bc : Nat} {bs : List Int} (h : RowB w ca cn bs) (ho : OnlyC bc w w') (hap : Apart ca cn bc) : RowB w' ca cn bs := by
  refine ⟨h.1, h.2.1, ?_⟩
  rcases h.2.2 with h0 | ⟨b, off, e, hl, hc⟩
  · exact .inl h0
  · refine .inr ⟨b, off, e, by rw [ho.size]; exact hl, fun i hi => ?_⟩
    rw [World.cell?_of_block (ho.block b (hap (by omega) _ e))]
    exact hc i hi

theorem next_any (bc : Nat) (ca : Option Addr) (cn cc p : Nat) (bs : List Int) (w : World) (h : Cur w bc ca cn cc p) (hr : RowB w ca cn bs) (hp : p ≤ 1000000) (hn : cn ≤ 1048576) :
    Calls Try.prog 105 #[.pointer (some ⟨bc, 0, none⟩)] w fun e w' => NextEnd bc ca cn cc p w e w' := by
  obtain ⟨s, hs⟩ := h
  by_cases hlt : p < cn
  · rcases hr.2.2 with h0 | ⟨b, off, e, hl, hc⟩
    · omega
    · exact next_in bc ca cn cc p s _ w hs hp hn hlt b off e (hc p hlt) (hr.2.1 p)
  · exact next_out bc ca cn cc p s w hs hp hn hlt

/-- How pick ends. -/
def PickEnd (m : Nat) (bc : Nat) (ca : Option Addr) (cn cc p : Nat) (w : World) (e : Ending) (w' : World) : Prop :=
  ∃ r : Nat, e = .returned (.int .i64 (r : Int)) ∧ r < m ∧ Cur w' bc ca cn cc (p + 1) ∧ OnlyC bc w w'

set_option maxHeartbeats 400000 in
theorem pick_any (m : Nat) (bc : Nat) (ca : Option Addr) (cn cc p : Nat) (bs : List Int) (w : World) (h : Cur w bc ca cn cc p) (hr : RowB w ca cn bs) (hp : p ≤ 1000000) (hn : cn ≤ 1048576) (h2 : 2 ≤ m) (h200 : m ≤ 200) :
    Calls Try.prog 51 #[.pointer (some ⟨bc, 0, none⟩), .int .i64 (m : Int)] w fun e w' => PickEnd m bc ca cn cc p w e w' := by
  have HN := hide (next_any bc ca cn cc p bs w h hr hp hn)
  clear h hr
  go_enter Try.func51, Try.ntmps51
  go_wp2_with fail
  refine HN.out.mono ?_
  rintro e w1 ⟨r, rfl, hr, hcur, ho⟩
  have HC := hide hcur
  have HO := hide ho
  clear hcur ho
  have hm : (2 : Int) ≤ (m : Int) := by omega
  have hm2 : (m : Int) ≤ 200 := by omega
  go_wp2
  go_ret
  have hmod : r % (m : Int) = ((r % (m : Int)).toNat : Int) := by have := Int.emod_nonneg r (show (m : Int) ≠ 0 by omega); omega
  have hlt : (r % (m : Int)).toNat < m := by have := Int.emod_lt_of_pos r (show (0 : Int) < (m : Int) by omega); omega
  have e : Ending.returned (Value.int .i64 (r % (m : Int))) = .returned (.int .i64 (((r % (m : Int)).toNat : Nat) : Int)) := by rw [← hmod]
  exact ⟨_, e, hlt, HC.out, HO.out⟩

set_option maxHeartbeats 400000 in
theorem one_any (m : Nat) (bc : Nat) (ca : Option Addr) (cn cc p : Nat) (bs : List Int) (w : World) (h : Cur w bc ca cn cc p) (hr : RowB w ca cn bs) (hp : p ≤ 1000000) (hn : cn ≤ 1048576) (h2 : 2 ≤ m) (h200 : m ≤ 200) :
    Calls Try.prog 53 #[.pointer (some ⟨bc, 0, none⟩), .int .i64 (m : Int)] w fun e w' => ∃ b : Bool, e = .returned (.bool b) ∧ Cur w' bc ca cn cc (p + 1) ∧ OnlyC bc w w' := by
  have HN := hide (pick_any m bc ca cn cc p bs w h hr hp hn h2 h200)
  clear h hr
  go_enter Try.func53, Try.ntmps53
  go_wp2_with fail
  refine HN.out.mono ?_
  rintro e w1 ⟨r, rfl, hr, hcur, ho⟩
  have HC := hide hcur
  have HO := hide ho
  clear hcur ho
  go_wp2
  go_ret
  exact ⟨_, rfl, HC.out, HO.out⟩

set_option maxHeartbeats 400000 in
theorem among_any (m c : Nat) (al : Option Addr) (ls : List Int) (bc : Nat) (ca : Option Addr) (cn cc p : Nat) (bs : List Int) (w : World) (h : Cur w bc ca cn cc p) (hr : RowB w ca cn bs) (hp : p ≤ 1000000) (hn : cn ≤ 1048576) (h2 : 2 ≤ m) (h200 : m ≤ 200)
    (hl : Row w al m ls) (hap : Apart al m bc) :
    Calls Try.prog 50 #[.pointer (some ⟨bc, 0, none⟩), .slice al m c] w fun e w' => ∃ x, e = .returned (.int .i64 x) ∧ x ∈ ls ∧ Cur w' bc ca cn cc (p + 1) ∧ OnlyC bc w w' := by
  have HN := hide (pick_any m bc ca cn cc p bs w h hr hp hn h2 h200)
  clear h hr
  go_enter Try.func50, Try.ntmps50
  go_wp2_with fail
  refine HN.out.mono ?_
  rintro e w1 ⟨r, rfl, hr, hcur, ho⟩
  obtain ⟨b1, o1, x, rfl, hl1, hc1, H1⟩ := hl.at hr
  have hc2 : w1.cell? ⟨b1, o1 + r, none⟩ = some (.int .i64 x) := (World.cell?_of_block (ho.block b1 (hap (by omega) _ rfl))).trans hc1
  have HC := hide hcur
  have HO := hide ho
  have hri : (r : Int) < (m : Int) := by omega
  clear hcur ho hl hc1 hap
  go_wp2
  go_ret
  exact ⟨x, rfl, List.mem_of_getElem? H1.out, HC.out, HO.out⟩

/-- Behind a call that moves the cursor in bc and makes memory: no other block below B has turned. -/
structure Kept (bc B : Nat) (w w' : World) : Prop where
  os : w'.os = w.os
  tape : w'.tape = w.tape
  output : w'.output = w.output
  size : w.heap.size ≤ w'.heap.size
  block : ∀ k, k < B → k ≠ bc → w'.heap[k]? = w.heap[k]?

theorem Kept.refl (bc B : Nat) (w : World) : Kept bc B w w := ⟨rfl, rfl, rfl, Nat.le_refl _, fun _ _ _ => rfl⟩
theorem Kept.trans {bc B : Nat} {a b c : World} (h : Kept bc B a b) (k : Kept bc B b c) : Kept bc B a c :=
  ⟨k.os.trans h.os, k.tape.trans h.tape, k.output.trans h.output, Nat.le_trans h.size k.size, fun i hi hne => (k.block i hi hne).trans (h.block i hi hne)⟩
theorem Kept.of_only {bc B : Nat} {w w' : World} (h : OnlyC bc w w') : Kept bc B w w' := ⟨h.os, h.tape, h.output, Nat.le_of_eq h.size.symm, fun k _ hne => h.block k hne⟩
theorem Kept.of_below {bc B : Nat} {w w' : World} (h : Below B w w') : Kept bc B w w' := ⟨h.os, h.tape, h.output, h.size, fun k hk _ => h.block k hk⟩
theorem Kept.mono {bc B C : Nat} {w w' : World} (h : Kept bc B w w') (hC : C ≤ B) : Kept bc C w w' := ⟨h.os, h.tape, h.output, h.size, fun k hk hne => h.block k (by omega) hne⟩
theorem Kept.below {bc B : Nat} {w w' : World} (h : Kept bc B w w') (hB : B ≤ bc) : Below B w w' := ⟨h.os, h.tape, h.output, h.size, fun k hk => h.block k hk (by omega)⟩

theorem Cur.lt {w : World} {bc : Nat} {ca : Option Addr} {cn cc p : Nat} (h : Cur w bc ca cn cc p) : bc < w.heap.size := by
  obtain ⟨s, hs⟩ := h; exact (Array.getElem?_eq_some_iff.mp hs).1
theorem Cur.below {w w' : World} {bc B : Nat} {ca : Option Addr} {cn cc p : Nat} (h : Cur w bc ca cn cc p) (hb : Below B w w') (hB : bc < B) : Cur w' bc ca cn cc p := by
  obtain ⟨s, hs⟩ := h; exact ⟨s, (hb.block bc hB).trans hs⟩

theorem RowB.kept {w w' : World} {ca : Option Addr} {cn bc : Nat} {bs : List Int} (h : RowB w ca cn bs) (ho : Kept bc w.heap.size w w') (hap : Apart ca cn bc) : RowB w' ca cn bs := by
  refine ⟨h.1, h.2.1, ?_⟩
  rcases h.2.2 with h0 | ⟨b, off, e, hl, hc⟩
  · exact .inl h0
  · refine .inr ⟨b, off, e, Nat.lt_of_lt_of_le hl ho.size, fun i hi => ?_⟩
    rw [World.cell?_of_block (ho.block b hl (hap (by omega) _ e))]
    exact hc i hi

theorem Row.kept {w w' : World} {a : Option Addr} {n bc : Nat} {xs : List Int} (h : Row w a n xs) (ho : Kept bc w.heap.size w w') (hap : Apart a n bc) : Row w' a n xs := by
  refine ⟨h.1, ?_⟩
  rcases h.2 with h0 | ⟨b, off, e, hl, hc⟩
  · exact .inl h0
  · refine .inr ⟨b, off, e, Nat.lt_of_lt_of_le hl ho.size, fun i hi => ?_⟩
    rw [World.cell?_of_block (ho.block b hl (hap (by omega) _ e))]
    exact hc i hi

set_option maxHeartbeats 400000 in
theorem places_draw (bc : Nat) (ca : Option Addr) (cn cc p : Nat) (bs : List Int) (w : World) (h : Cur w bc ca cn cc p) (hr : RowB w ca cn bs) (hap : Apart ca cn bc) (hp : p ≤ 1000000) (hn : cn ≤ 1048576) :
    Calls Try.prog 111 #[.pointer (some ⟨bc, 0, none⟩)] w fun e w' => ∃ x : Int, e = .returned (.int .i64 x) ∧ (0 ≤ x ∧ x ≤ 17) ∧ Cur w' bc ca cn cc (p + 1) ∧ Kept bc w.heap.size w w' := by
  have hbc := h.lt
  have HB := hide ((Below.refl w.heap.size w).alloc (Nat.le_refl _) (.cells (cellsOf [1, 2, 3, 4, 5, 16, 0, 17]) 3))
  have HN := hide (among_any 8 8 (some ⟨w.heap.size, 0, none⟩) [1, 2, 3, 4, 5, 16, 0, 17] bc ca cn cc p bs (w.alloc (.cells (cellsOf [1, 2, 3, 4, 5, 16, 0, 17]) 3)) (h.below HB.out hbc) (hr.kept (Kept.of_below HB.out) hap) hp hn (by omega) (by omega)
    (row_new w _ 8 _ rfl rfl) (by intro _ x hx; obtain rfl := Option.some.inj hx; simp; omega))
  clear h hr
  go_enter Try.func111, Try.ntmps111
  go_wp2_with fail
  refine HN.out.mono ?_
  rintro e w1 ⟨x, rfl, hx, hcur, ho⟩
  have HC := hide hcur
  have HO := hide ho
  have hx2 : 0 ≤ x ∧ x ≤ 17 := by simp at hx; omega
  clear hcur ho hx
  go_wp2
  go_ret
  exact ⟨x, rfl, hx2, HC.out, (Kept.of_below HB.out).trans (Kept.of_only HO.out)⟩
end Go.Proofs.Ytegabkegbhglfaa


/- l1Own of whatever list; pick of one. -/
namespace Go.Proofs.Ytegabkegbhglfaa
open Go.RowKit
set_option maxRecDepth 10000

theorem run_append_none {P : Program} (w : World) (base : Nat) (t ty e : TypeId) (i : TypeInfo) (size : Nat) (ht : P.underlying t = some (.slice e)) (hi : P.info? e = some i)
    (v : Value) (n c : Nat) (xs : List Value) (hown : w.ownsRow base e size v n xs) :
    (Builtin.append_ #[t, t] ty #[v, .slice none 0 c]).run P w = .ok v w := by
  rcases hown.2 with ⟨rfl, rfl⟩ | ⟨g, cap, cur, rfl, _, _, hnc, _⟩
  · simp [Builtin.append_, run_underlying ht, sizeOf, typeInfo, hi, Builtin.lenOf, Builtin.firstCells]
  · simp [Builtin.append_, run_underlying ht, sizeOf, typeInfo, hi, Builtin.lenOf, Builtin.firstCells, hnc, storeCells]

/-- append, whatever is appended. -/
theorem wpList_append_any2 {P : Program} (w : World) {ops : Array Oper} {rest : List Oper} {o : Oper} {a : Act} {Q : Exit → Act → World → Prop} (hgd : o.guard = none) (s x : Operand) (t : TypeId)
    (ho : o.op = .call { callee := .builtin .append, args := #[s, x], argTypes := #[t, t] })
    (base : Nat) (e : TypeId) (i : TypeInfo) (z : Value) (size bytes : Nat) (ht : P.underlying t = some (.slice e)) (hi : P.info? e = some i) (hz : i.zero = some z)
    (hsize : i.size = size) (hby : i.bytes = bytes) (hzs : z.cells.size = size) (hsz : 0 < size)
    (v : Value) (n : Nat) (xs : List Value) (hs : a.eval s = v) (hown : w.ownsRow base e size v n xs)
    (ao : Option Addr) (m c : Nat) (news : List Value) (hx : a.eval x = .slice ao m c) (hl : news.length = m * size) (hnone : ao = none → m = 0)
    (hnews : ∀ ad, ao = some ad → ∀ j u, news[j]? = some u → w.cell? (ad.add j) = some u) (h1 : ∀ u ∈ news, u.oneCell' = true)
    (h63 : n + m ≤ maxLen) (hbytes : (n + m) * bytes ≤ 140737488355328) (hbase : base ≤ w.heap.size)
    (h : ∀ v' w', w'.ownsRow base e size v' (n + m) (xs ++ news) → w.grownBy w' v.ownBlock → wpList P ops Q rest (a.put o.dst v') w') : wpList P ops Q (o :: rest) a w := by
  cases ao with
  | some ad => exact wpList_append_own w hgd s x t ho base e i z size bytes ht hi hz hsize hby hzs hsz v n xs hs hown ad m c news hx hl (hnews ad rfl) h1 h63 hbytes hbase fun v' w' r1 r2 _ => h v' w' r1 r2
  | none =>
    obtain rfl := hnone rfl
    have hnews : news = [] := List.eq_nil_of_length_eq_zero (by simpa using hl)
    subst hnews
    refine wpList_plain hgd fun K hK' => ?_
    have hrun := run_append_none (P := P) w base t o.type e i size ht hi _ n c xs hown
    unfold Oper.wp
    simp [execOp, ho, resolve, invoke, builtin, hs, hx, hrun, Result.andThen]
    exact hK' _ _ (by simpa using h v w (by simpa using hown) (World.grownBy.refl _ _))

theorem Row.some_of {w : World} {a : Option Addr} {n : Nat} {xs : List Int} (h : Row w a n xs) : ∀ ad, a = some ad → ∀ j u, (xs.map (Value.int .i64))[j]? = some u → w.cell? (ad.add j) = some u := by
  have := cells_upto h (Nat.le_refl n)
  rw [List.take_of_length_le (by have := h.1; omega)] at this
  exact this

set_option maxHeartbeats 400000 in
theorem own3_any (a : Option Addr) (n c : Nat) (xs : List Int) (w : World) (ha : Row w a n xs) (hn : n ≤ 1048576) :
    Calls Try.prog 89 #[.slice a n c] w fun e w' => ∃ a' c', e = .returned (.slice a' n c') ∧ Row w' a' n xs ∧ (0 < n → ∀ x, a' = some x → w.heap.size ≤ x.block) ∧ Below w.heap.size w w' := by
  obtain ⟨i0, hi, hz0, hz1, hz2⟩ := info_split Try.info3
  have P0 := hide (PutSt.first w)
  have HA := hide (ha.below P0.out.bel)
  have HL := hide ha.1
  clear ha
  go_enter Try.func89, Try.ntmps89
  go_wp2_with (at_builtin; refine wpList_append_any2 _ rfl (.tmp 3) (.tmp 4) 30 rfl w.heap.size 3 i0 (.int .i64 0) 1 8 Try.underlying30 hi hz0 hz1 hz2 rfl (by decide) (.slice (some ⟨w.heap.size, 0, none⟩) 0 0) 0 [] rfl P0.out.own a n c (xs.map (Value.int .i64)) rfl (by rw [List.length_map, Nat.mul_one]; exact HL.out) (fun h => by (rcases HA.out.2 with h0 | ⟨b, off, e, _⟩; exact h0; rw [h] at e; cases e)) HA.out.some_of (ints_oneCell _ _) (by unfold maxLen; omega) (by omega) (by simp) ?_; intro u1 W1 r1 r2; have P1 := hide (P0.out.step (q := n) (zs := xs) r1 r2); clear r1 r2)
  go_ret
  have P2 := P1.out
  rw [Nat.zero_add, List.nil_append] at P2
  have hlt := P2.own.lt
  obtain ⟨a', c', rfl, hr⟩ := ownsRow_row2 P2.own
  exact ⟨a', c', rfl, hr, fun _ x hx => by subst hx; exact (hlt x.block rfl).1, P2.bel⟩

set_option maxHeartbeats 400000 in
theorem pickS_any (m : Nat) (bc : Nat) (ca : Option Addr) (cn cc p : Nat) (bs : List Int) (w : World) (h : Cur w bc ca cn cc p) (hr : RowB w ca cn bs) (hp : p ≤ 1000000) (hn : cn ≤ 1048576) (h1 : 1 ≤ m) (h200 : m ≤ 200) :
    Calls Try.prog 51 #[.pointer (some ⟨bc, 0, none⟩), .int .i64 (m : Int)] w fun e w' => ∃ r p' : Nat, e = .returned (.int .i64 (r : Int)) ∧ r < m ∧ p' ≤ p + 1 ∧ Cur w' bc ca cn cc p' ∧ OnlyC bc w w' := by
  by_cases h2 : 2 ≤ m
  · refine (pick_any m bc ca cn cc p bs w h hr hp hn h2 h200).mono ?_
    rintro e w' ⟨r, e1, hr, hc, ho⟩
    exact ⟨r, p + 1, e1, hr, Nat.le_refl _, hc, ho⟩
  · obtain rfl : m = 1 := by omega
    have HC := hide h
    clear h hr
    go_enter Try.func51, Try.ntmps51
    go_wp2_with fail
    go_ret
    exact ⟨0, p, rfl, by omega, by omega, HC.out, OnlyC.refl _ _⟩
end Go.Proofs.Ytegabkegbhglfaa


/- l1InOrder: a mark is put to its place, once. -/
namespace Go.Proofs.Ytegabkegbhglfaa
open Go.RowKit
set_option maxRecDepth 10000

/-- A row of lists that append made, out of lists that were there. -/
structure SlSt (D : Nat) (u v : World) (o : Value) (q : Nat) (cs : List Value) (X : List (List Int)) (n : Nat) : Prop where
  own : v.ownsRow D 30 1 o q cs
  cell : ∀ j, j < q → ∃ a c, cs[j]? = some (.slice a n c) ∧ Row u a n (X.getD j [])
  len : X.length = q
  bel : Below D u v
  low : D ≤ v.heap.size

theorem SlSt.grow {D n q : Nat} {u v v' : World} {o : Value} {cs : List Value} {X : List (List Int)} (h : SlSt D u v o q cs X n) (hb : Below v.heap.size v v') : SlSt D u v' o q cs X n :=
  ⟨own_grow2 h.own hb, h.cell, h.len, h.bel.trans (hb.mono h.low), Nat.le_trans h.low hb.size⟩

theorem SlSt.step {D n q : Nat} {u v v' : World} {o o' : Value} {cs : List Value} {X : List (List Int)} {x : List Int} {a : Option Addr} {c : Nat} (h : SlSt D u v o q cs X n) (hr : Row u a n x)
    (r1 : v'.ownsRow D 30 1 o' (q + 1) (cs ++ [.slice a n c])) (r2 : v.grownBy v' o.ownBlock) : SlSt D u v' o' (q + 1) (cs ++ [.slice a n c]) (X ++ [x]) n := by
  have hcl : cs.length = q := by have := h.own.1; omega
  refine ⟨r1, fun j hj => ?_, by simp [h.len], h.bel.grown r2 h.low fun k hk => (h.own.lt k hk).1, Nat.le_trans h.low r2.size⟩
  have hxl := h.len
  by_cases hjq : j < q
  · obtain ⟨a', c', h1, h2⟩ := h.cell j hjq
    refine ⟨a', c', by rw [List.getElem?_append_left (by omega)]; exact h1, ?_⟩
    rw [List.getD_eq_getElem?_getD, List.getElem?_append_left (by omega), ← List.getD_eq_getElem?_getD]
    exact h2
  · obtain rfl : j = q := by omega
    refine ⟨a, c, by rw [List.getElem?_append_right (by omega)]; simp [hcl], ?_⟩
    rw [List.getD_eq_getElem?_getD, List.getElem?_append_right (by omega)]
    simpa [hxl] using hr

theorem SlSt.lists {D n q : Nat} {u v : World} {o : Value} {cs : List Value} {X : List (List Int)} (h : SlSt D u v o q cs X n) (hn : n ≤ 16) (hD : u.heap.size = D) : ∃ a c, o = .slice a q c ∧ Lists v a q X := by
  have hcl : cs.length = q := by have := h.own.1; omega
  rcases h.own.2 with ⟨rfl, rfl⟩ | ⟨g, cap, cur, rfl, hb, hh, hnc, _, hsz, ht⟩
  · exact ⟨none, 0, rfl, h.len, .inl rfl⟩
  · refine ⟨_, cap, rfl, h.len, .inr ⟨g, 0, rfl, (Array.getElem?_eq_some_iff.mp hh).1, fun j hj => ?_⟩⟩
    obtain ⟨a, c, h1, h2⟩ := h.cell j hj
    refine ⟨a, n, c, ?_, by unfold maxLen; omega, h2.below (by rw [hD]; exact h.bel)⟩
    rw [cell_of_row v g _ _ _ _ hh, Nat.zero_add, ← Array.getElem?_toList, ← h1, ← ht, List.getElem?_take_of_lt (by omega)]

/-- Where putting a mark to its place is, behind the first k. -/
def InsUpto (n : Nat) (m : List Int) (O : List (List Int)) (k : Nat) (pb : Bool) (X : List (List Int)) : Prop :=
  if pb = true then ∃ j, j < k ∧ X = O.take j ++ m :: (O.take k).drop j ∧ (∀ x ∈ O.take j, 0 < cmpL n m x) ∧ ∀ x ∈ (O.take k).drop j, cmpL n m x < 0
  else X = O.take k ∧ ∀ x ∈ O.take k, 0 < cmpL n m x

theorem InsUpto.first (n : Nat) (m : List Int) (O : List (List Int)) : InsUpto n m O 0 false [] := by
  unfold InsUpto; rw [if_neg (by decide)]; simp

theorem drop_take_succ {O : List (List Int)} {j k : Nat} (hj : j ≤ k) (hk : k < O.length) : (O.take (k + 1)).drop j = (O.take k).drop j ++ [O.getD k []] := by
  rw [take_getD hk, List.drop_append_of_le_length (by rw [List.length_take]; omega)]

theorem InsUpto.put {n k : Nat} {m : List Int} {O X : List (List Int)} (h : InsUpto n m O k false X) (hk : k < O.length) (hc : cmpL n m (O.getD k []) < 0) : InsUpto n m O (k + 1) true (X ++ [m] ++ [O.getD k []]) := by
  unfold InsUpto at *
  rw [if_neg (by decide)] at h
  rw [if_pos rfl]
  have e : (O.take (k + 1)).drop k = [O.getD k []] := by
    rw [drop_take_succ (Nat.le_refl k) hk, List.drop_eq_nil_of_le (by rw [List.length_take]; omega)]; rfl
  refine ⟨k, by omega, by rw [e, h.1]; simp, h.2, fun x hx => ?_⟩
  rw [e] at hx
  obtain rfl := List.mem_singleton.mp hx
  exact hc

theorem InsUpto.past {n k : Nat} {m : List Int} {O X : List (List Int)} (h : InsUpto n m O k true X) (hk : k < O.length) (hc : cmpL n m (O.getD k []) < 0) : InsUpto n m O (k + 1) true (X ++ [O.getD k []]) := by
  unfold InsUpto at *
  rw [if_pos rfl] at *
  obtain ⟨j, h1, h2, h3, h4⟩ := h
  refine ⟨j, by omega, by rw [drop_take_succ (by omega) hk, h2]; simp, h3, fun x hx => ?_⟩
  rw [drop_take_succ (by omega) hk] at hx
  rcases List.mem_append.mp hx with hx | hx
  · exact h4 x hx
  · obtain rfl := List.mem_singleton.mp hx
    exact hc

theorem InsUpto.ahead {n k : Nat} {m : List Int} {O X : List (List Int)} (h : InsUpto n m O k false X) (hk : k < O.length) (hc : 0 < cmpL n m (O.getD k [])) : InsUpto n m O (k + 1) false (X ++ [O.getD k []]) := by
  unfold InsUpto at *
  rw [if_neg (by decide)] at *
  refine ⟨by rw [take_getD hk, h.1], fun x hx => ?_⟩
  rw [take_getD hk] at hx
  rcases List.mem_append.mp hx with hx | hx
  · exact h.2 x hx
  · obtain rfl := List.mem_singleton.mp hx
    exact hc

theorem InsUpto.sure {n k : Nat} {m : List Int} {O X : List (List Int)} (h : InsUpto n m O k true X) (hs : SortL n O) (hk : k < O.length) : cmpL n m (O.getD k []) < 0 := by
  unfold InsUpto at h
  rw [if_pos rfl] at h
  obtain ⟨j, h1, _, _, h4⟩ := h
  have hj : O.getD j [] ∈ (O.take k).drop j := by
    rw [List.mem_iff_getElem]
    refine ⟨0, by rw [List.length_drop, List.length_take]; omega, ?_⟩
    simp [show j < O.length by omega]
  have h5 := h4 _ hj
  have h6 := (List.pairwise_iff_getElem.mp hs) j k (by omega) hk h1
  refine cmpL_lt h5 (Int.le_of_lt ?_)
  simpa [hk, show j < O.length by omega] using h6

theorem InsUpto.done {n : Nat} {m : List Int} {O X : List (List Int)} (h : InsUpto n m O O.length true X) : Ins n m O X := by
  unfold InsUpto at h
  rw [if_pos rfl] at h
  obtain ⟨j, h1, h2, h3, h4⟩ := h
  rw [List.take_length] at h2 h4
  exact .inr ⟨j, by omega, h2, h3, h4⟩

theorem InsUpto.last {n : Nat} {m : List Int} {O X : List (List Int)} (h : InsUpto n m O O.length false X) : Ins n m O (X ++ [m]) := by
  unfold InsUpto at h
  rw [if_neg (by decide)] at h
  rw [List.take_length] at h
  exact .inr ⟨O.length, Nat.le_refl _, by rw [h.1]; simp, by rw [List.take_length]; exact h.2, fun x hx => by simp at hx⟩
end Go.Proofs.Ytegabkegbhglfaa


/- l1InOrder, walked. -/
namespace Go.Proofs.Ytegabkegbhglfaa
open Go.RowKit
set_option maxRecDepth 10000

def InEnd (n : Nat) (m : List Int) (O : List (List Int)) (w : World) (e : Ending) (w' : World) : Prop := ∃ a q c R, e = .returned (.slice a q c) ∧ Lists w' a q R ∧ Ins n m O R ∧ Below w.heap.size w w'

set_option maxHeartbeats 2000000 in
theorem inOrder_any (n : Nat) (al : Option Addr) (ql cl : Nat) (O : List (List Int)) (am : Option Addr) (cm : Nat) (m : List Int) (w : World) (hl : Lists w al ql O) (hO : ∀ x ∈ O, x.length = n) (hm : Row w am n m) (hs : SortL n O) (hn : n ≤ 16) (hq : ql ≤ 400) :
    Calls Try.prog 110 #[.slice al ql cl, .slice am n cm] w fun e w' => InEnd n m O w e w' := by
  obtain ⟨i0, hi, hz0, hz1, hz2⟩ := info_split Try.info30
  have HL := hide hl
  have HLE := hide hl.1
  have HO := hide hO
  have HM := hide hm
  have HS := hide hs
  have HI := hide (And.intro hi (And.intro hz0 (And.intro hz1 hz2)))
  clear hl hO hm hs hi hz0 hz1 hz2
  go_enter Try.func110, Try.ntmps110
  go_wp2_with fail
  go_loopw [5, 6, 12] (fun o pv i wr => ∃ (k q : Nat) (pb : Bool) (cs : List Value) (X : List (List Int)), k ≤ ql ∧ i = .int .i64 k ∧ pv = .bool pb ∧ q ≤ k + 1 ∧ Hid (SlSt w.heap.size w wr o q cs X n) ∧ Hid (InsUpto n m O k pb X)) (fun _ _ i _ => ql - (intOf i).toNat)
  case atStart => exact ⟨0, 0, false, [], [], Nat.zero_le _, rfl, rfl, by omega, ⟨World.ownsRow_nil _ _ _ _, fun j hj => absurd hj (by omega), rfl, Below.refl _ _, Nat.le_refl _⟩, InsUpto.first _ _ _⟩
  case round =>
    obtain ⟨k, q, pb, cs, X, hk, rfl, rfl, hqk, st, hi⟩ := hrel
    by_cases hlt : k < ql
    rotate_left
    · have hk' : k = ql := by omega
      subst hk'
      have hlo : w.heap.size ≤ wr.heap.size := st.out.low
      have HX := hide hi.out
      rw [← HLE.out] at HX
      cases pb
      · have ST3 := hide (st.out.grow (below_al wr (.cells #[.slice am n cm] 30)))
        obtain ⟨hi0, hz0, hz1, hz2⟩ := HI.out
        clear st
        go_wp2_with (at_builtin; refine wpList_append_own _ rfl (.tmp 39) (.tmp 41) 24 rfl w.heap.size 30 i0 _ 1 24 Try.underlying24 hi0 hz0 hz1 hz2 rfl (by decide) _ q _ rfl ST3.out.own ⟨wr.heap.size, 0, none⟩ 1 1 [.slice am n cm] rfl rfl (cell_one_new _ _ _) (by simp [Value.oneCell']) (by unfold maxLen; omega) (by omega) (by simp; omega) ?_; intro v' w3 r1 r2 _; have ST4 := hide (ST3.out.step HM.out r1 r2); clear r1 r2)
        obtain ⟨a', c', rfl, hls⟩ := ST4.out.lists hn rfl
        have HE : Hid (InEnd n m O w (.returned (.slice a' (q + 1) c')) w3) := ⟨a', q + 1, c', _, rfl, hls, HX.out.last, ST4.out.bel⟩
        clear ST4 hls
        go_wp2_with fail
        go_ret
        exact HE.out
      · obtain ⟨a', c', rfl, hls⟩ := st.out.lists hn rfl
        have HE : Hid (InEnd n m O w (.returned (.slice a' q c')) wr) := ⟨a', q, c', _, rfl, hls, HX.out.done, st.out.bel⟩
        clear st hls
        go_wp2_with fail
        go_ret
        exact HE.out
    have hlt' : k < O.length := by have := HLE.out; omega
    obtain ⟨b, off, a0, n0, c0, rfl, hb, hc0, m0, r0⟩ := (HL.out.below st.out.bel).at hlt
    obtain rfl : n0 = n := by have := HO.out _ (getD_mem hlt'); have := r0.1; omega
    have HR0 : Hid (Row w a0 n0 (O.getD k [])) := by
      obtain ⟨b', off', a', n', c', e1, hb', hc', _, r'⟩ := HL.out.at hlt
      simp only [Option.some.injEq, Addr.mk.injEq] at e1
      obtain ⟨rfl, rfl, _⟩ := e1
      rw [st.out.bel.cell hb'] at hc0
      rw [hc'] at hc0
      simp only [Option.some.injEq, Value.slice.injEq] at hc0
      obtain ⟨rfl, rfl, rfl⟩ := hc0
      exact r'
    have HC := hide (cmpS_any am a0 n0 cm c0 m (O.getD k []) wr (HM.out.below st.out.bel) r0 hn)
    obtain ⟨x, hx⟩ : ∃ x, Hid (O.getD k [] = x) := ⟨_, rfl⟩
    have hcd : cmpL n0 m (O.getD k []) = cmpN (getF m) (getF (O.getD k [])) n0 0 := rfl
    obtain ⟨z, hz⟩ : ∃ z, Hid (cmpL n0 m (O.getD k []) = z) := ⟨_, rfl⟩
    rw [← hcd, hz.out] at HC
    rw [hx.out] at HR0
    clear r0 m0 hcd
    go_wp2_with fail
    refine HC.out.mono ?_
    rintro e v1 ⟨rfl, qd, rfl⟩
    have ST1 := hide (st.out.grow (below_drewN' wr qd))
    generalize wr.drewN qd = v1 at *
    clear HC st
    have hlo : w.heap.size ≤ v1.heap.size := ST1.out.low
    obtain ⟨hi0, hz0, hz1, hz2⟩ := HI.out
    rcases Int.lt_trichotomy z 0 with hzz | hzz | hzz
    · have hze : (z == 0) = false := by simp; omega
      have hzd : decide (z = 0) = false := by simp; omega
      cases pb
      · have hqe : q ≤ k := by
          have h1 := hi.out
          unfold InsUpto at h1
          rw [if_neg (by decide)] at h1
          have := ST1.out.len
          rw [h1.1, List.length_take] at this
          omega
        have HX := hide (hi.out.put hlt' (by rw [hz.out]; exact hzz))
        rw [hx.out] at HX
        have STa := hide (ST1.out.grow (below_al v1 (.cells #[.slice am n0 cm] 30)))
        clear hc0 ST1 hi
        go_wp2_with (first
          | ((show wpList _ _ _ (⟨_, .call ⟨_, #[.tmp 28, .tmp 30], _⟩, _, _, _, _⟩ :: _) _ _); at_builtin; refine wpList_append_own _ rfl (.tmp 28) (.tmp 30) 24 rfl w.heap.size 30 i0 _ 1 24 Try.underlying24 hi0 hz0 hz1 hz2 rfl (by decide) _ _ _ rfl STa.out.own ⟨v1.heap.size, 0, none⟩ 1 1 [.slice am n0 cm] rfl rfl (cell_one_new _ _ _) (by simp [Value.oneCell']) (by unfold maxLen; omega) (by omega) (by simp; omega) ?_; intro v' w2 r1 r2 _; have STb := hide (STa.out.step HM.out r1 r2); clear r1 r2; have hlo2 : w.heap.size ≤ w2.heap.size := STb.out.low; have STc := hide (STb.out.grow (below_al w2 (.cells #[.slice a0 n0 c0] 30))))
          | ((show wpList _ _ _ (⟨_, .call ⟨_, #[.tmp 32, .tmp 34], _⟩, _, _, _, _⟩ :: _) _ _); at_builtin; refine wpList_append_own _ rfl (.tmp 32) (.tmp 34) 24 rfl w.heap.size 30 i0 _ 1 24 Try.underlying24 hi0 hz0 hz1 hz2 rfl (by decide) _ _ _ rfl STc.out.own ⟨w2.heap.size, 0, none⟩ 1 1 [.slice a0 n0 c0] rfl rfl (cell_one_new _ _ _) (by simp [Value.oneCell']) (by unfold maxLen; omega) (by omega) (by simp; omega) ?_; intro v' w3 r1 r2 _; have ST3 := hide (STc.out.step HR0.out r1 r2); clear r1 r2))
        go_roundw
        case rel => exact ⟨k + 1, _, true, _, _, by omega, by go_num, rfl, by omega, ST3, HX⟩
        case measure => simp [intOf]; omega
      · have HX := hide (hi.out.past hlt' (by rw [hz.out]; exact hzz))
        rw [hx.out] at HX
        have ST2 := hide (ST1.out.grow (below_al v1 (.cells #[.slice a0 n0 c0] 30)))
        clear hc0 ST1 hi
        go_wp2_with ((show wpList _ _ _ (⟨_, .call ⟨_, #[.tmp 32, .tmp 34], _⟩, _, _, _, _⟩ :: _) _ _); at_builtin; refine wpList_append_own _ rfl (.tmp 32) (.tmp 34) 24 rfl w.heap.size 30 i0 _ 1 24 Try.underlying24 hi0 hz0 hz1 hz2 rfl (by decide) _ _ _ rfl ST2.out.own ⟨v1.heap.size, 0, none⟩ 1 1 [.slice a0 n0 c0] rfl rfl (cell_one_new _ _ _) (by simp [Value.oneCell']) (by unfold maxLen; omega) (by omega) (by simp; omega) ?_; intro v' w3 r1 r2 _; have ST3 := hide (ST2.out.step HR0.out r1 r2); clear r1 r2)
        go_roundw
        case rel => exact ⟨k + 1, _, true, _, _, by omega, by go_num, rfl, by omega, ST3, HX⟩
        case measure => simp [intOf]; omega
    · subst hzz
      have HE : Hid (InEnd n0 m O w (.returned (.slice (some ⟨b, off, none⟩) ql cl)) v1) := ⟨_, ql, cl, O, rfl, HL.out.below ST1.out.bel, .inl ⟨rfl, _, getD_mem hlt', hz.out⟩, ST1.out.bel⟩
      clear hc0 ST1 hi
      go_wp2_with fail
      go_ret
      exact HE.out
    · have hze : (z == 0) = false := by simp; omega
      have hzd : decide (z = 0) = false := by simp; omega
      cases pb
      · have HX := hide (hi.out.ahead hlt' (by rw [hz.out]; exact hzz))
        rw [hx.out] at HX
        have ST2 := hide (ST1.out.grow (below_al v1 (.cells #[.slice a0 n0 c0] 30)))
        clear hc0 ST1 hi
        go_wp2_with ((show wpList _ _ _ (⟨_, .call ⟨_, #[.tmp 32, .tmp 34], _⟩, _, _, _, _⟩ :: _) _ _); at_builtin; refine wpList_append_own _ rfl (.tmp 32) (.tmp 34) 24 rfl w.heap.size 30 i0 _ 1 24 Try.underlying24 hi0 hz0 hz1 hz2 rfl (by decide) _ _ _ rfl ST2.out.own ⟨v1.heap.size, 0, none⟩ 1 1 [.slice a0 n0 c0] rfl rfl (cell_one_new _ _ _) (by simp [Value.oneCell']) (by unfold maxLen; omega) (by omega) (by simp; omega) ?_; intro v' w3 r1 r2 _; have ST3 := hide (ST2.out.step HR0.out r1 r2); clear r1 r2)
        go_roundw
        case rel => exact ⟨k + 1, _, false, _, _, by omega, by go_num, rfl, by omega, ST3, HX⟩
        case measure => simp [intOf]; omega
      · exfalso
        have := hi.out.sure HS.out hlt'
        rw [hz.out] at this
        omega
end Go.Proofs.Ytegabkegbhglfaa
