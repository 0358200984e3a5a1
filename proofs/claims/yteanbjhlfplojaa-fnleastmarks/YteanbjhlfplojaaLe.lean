/- leastTokens: the marks in order, and of them those that cover none that is kept. -/
import Derived.Test.YteanbjhlfplojaaCi
import Derived.Laws.AppendOwn
import Derived.Great.BuildSlice
namespace Go.Proofs.Yteanbjhlfplojaa
open Go.RowKit Go.Sort
set_option maxRecDepth 10000

/-- The cells of a row of packed marks. -/
def cellsT (n : Nat) (ks : List (List Int)) : List Value := (ks.map (encT n)).flatten

theorem cellsT_cons (n : Nat) (x : List Int) (ks : List (List Int)) : cellsT n (x :: ks) = encT n x ++ cellsT n ks := by simp [cellsT]
theorem cellsT_append (n : Nat) (ks : List (List Int)) (x : List Int) : cellsT n (ks ++ [x]) = cellsT n ks ++ encT n x := by simp [cellsT]

theorem cellsT_at (n : Nat) (ks : List (List Int)) (i j : Nat) (hi : i < ks.length) (hj : j < 16) : (cellsT n ks)[i * 16 + j]? = (encT n (ks.getD i []))[j]? := by
  induction ks generalizing i with
  | nil => simp at hi
  | cons x ks ih =>
    rw [cellsT_cons]
    cases i with
    | zero => rw [List.getElem?_append_left (by rw [encT_len]; omega)]; simp
    | succ i =>
      rw [List.getElem?_append_right (by rw [encT_len]; omega), encT_len]
      have := ih i (by simpa using hi)
      rw [show (i + 1) * 16 + j - 16 = i * 16 + j by omega, this]
      simp

theorem own_tok {D n q : Nat} {v : World} {o : Value} {ks : List (List Int)} (h : v.ownsRow D 50 16 o q (cellsT n ks)) (hq : ks.length = q) : ∃ a c, o = .slice a q c ∧ TokRow n v a ks := by
  rcases h.2 with ⟨rfl, rfl⟩ | ⟨g, cap, cur, rfl, hb, hh, hnc, _, hsz, ht⟩
  · exact ⟨none, 0, rfl, .inl (List.length_eq_zero_iff.mp hq)⟩
  · refine ⟨_, cap, rfl, .inr ⟨g, 0, rfl, (Array.getElem?_eq_some_iff.mp hh).1, fun i hi => ?_⟩⟩
    intro j u hu
    have hj : j < 16 := by have := (List.getElem?_eq_some_iff.1 hu).1; rwa [encT_len] at this
    have e1 := cellsT_at n ks i j hi hj
    rw [← ht, List.getElem?_take_of_lt (by omega)] at e1
    rw [cell_of_row v g _ _ _ _ hh, Nat.zero_add, ← hu, ← e1, Array.getElem?_toList]

theorem own_grow2 {B : Nat} {e : TypeId} {s : Nat} {w w' : World} {v : Value} {n : Nat} {l : List Value} (hown : w.ownsRow B e s v n l) (hb : Below w.heap.size w w') : w'.ownsRow B e s v n l := by
  refine ⟨hown.1, ?_⟩
  rcases hown.2 with h0 | ⟨g, cap, cur, e, h1, h2, h3⟩
  · exact .inl h0
  · exact .inr ⟨g, cap, cur, e, h1, (hb.block g (Array.getElem?_eq_some_iff.mp h2).1).trans h2, h3⟩

/-- What is there while the least ones are gathered. -/
structure LtSt (D : Nat) (u v : World) (n : Nat) (o : Value) (q : Nat) (ks : List (List Int)) : Prop where
  len : ks.length = q
  own : v.ownsRow D 50 16 o q (cellsT n ks)
  bel : Below D u v
  low : D ≤ v.heap.size

theorem LtSt.grow {D n q : Nat} {u v v' : World} {o : Value} {ks : List (List Int)} (h : LtSt D u v n o q ks) (hb : Below v.heap.size v v') : LtSt D u v' n o q ks :=
  ⟨h.len, own_grow2 h.own hb, h.bel.trans (hb.mono h.low), Nat.le_trans h.low hb.size⟩

theorem LtSt.step {D n q : Nat} {u v v' : World} {o o' : Value} {ks : List (List Int)} {x : List Int} (h : LtSt D u v n o q ks) (r1 : v'.ownsRow D 50 16 o' (q + 1) (cellsT n ks ++ encT n x)) (r2 : v.grownBy v' o.ownBlock) : LtSt D u v' n o' (q + 1) (ks ++ [x]) :=
  ⟨by simp [h.len], by rw [cellsT_append]; exact r1, h.bel.grown r2 h.low fun k hk => (h.own.lt k hk).1, Nat.le_trans h.low r2.size⟩

theorem wpList_load_tok {ops : Array Oper} {rest : List Oper} {op : Oper} {a : Act} {w : World} {Q : Exit → Act → World → Prop} (hgd : op.guard = none) (x : Operand) (ho : op.op = .load 50 x)
    (b o : Nat) (hx : a.eval x = .pointer (some ⟨b, o, none⟩)) (n : Nat) (t : List Int) (hc : w.rangeAt b o (encT n t))
    (h : wpList Try.prog ops Q rest (a.put op.dst (.agg (packOf t n))) w) : wpList Try.prog ops Q (op :: rest) a w := by
  refine wpList_load_mid hgd 50 x ho b o hx (encT n t) _ hc Try.underlying50 rfl (by rw [encT_len]; exact Try.size50) ?_
  simpa [encT] using h

theorem Try.infoT : (Try.prog.info? 50).map (fun i => (i.zero, i.size, i.bytes)) = some (some (.agg #[.int .u8 0, .int .u8 0, .int .u8 0, .int .u8 0, .int .u8 0, .int .u8 0, .int .u8 0, .int .u8 0, .int .u8 0, .int .u8 0, .int .u8 0, .int .u8 0, .int .u8 0, .int .u8 0, .int .u8 0, .int .u8 0]), 16, 16) := by kernel_rfl

theorem info_splitT {P : Program} {e : TypeId} {z : Value} {size bytes : Nat} (h : (P.info? e).map (fun i => (i.zero, i.size, i.bytes)) = some (some z, size, bytes)) : ∃ i, P.info? e = some i ∧ i.zero = some z ∧ i.size = size ∧ i.bytes = bytes := by
  obtain ⟨i, hi, hzz⟩ := Option.map_eq_some_iff.1 h
  simp only [Prod.mk.injEq] at hzz
  exact ⟨i, hi, hzz.1, hzz.2.1, hzz.2.2⟩

theorem fill_tok (n : Nat) (t : List Int) (zs : Array Value) (hz : zs.size = 16) : Instr.fill (fun i => some (i * 16, 16)) zs [(0, .agg (packOf t n))] = some (packOf t n) := by
  have hs : (Value.agg (packOf t n)).cells.size = 16 := packOf_size t n
  obtain ⟨r, h1, h2, h3⟩ := Great.fill_dense (s := 16) (by omega) [.agg (packOf t n)] 0 zs (by intro v hv; obtain rfl := List.mem_singleton.mp hv; exact hs) (by simp [hz])
  have e : r = packOf t n := by
    apply Array.ext_getElem?
    intro k
    rw [h3 k]
    by_cases hk : k < 16
    · rw [if_pos (by simp; omega), Nat.div_eq_of_lt hk, Nat.mod_eq_of_lt hk]
      rfl
    · rw [if_neg (by simp; omega), Array.getElem?_eq_none (by omega), Array.getElem?_eq_none (by rw [packOf_size]; omega)]
  rw [e] at h1
  exact h1

theorem wpList_build_tok {ops : Array Oper} {rest : List Oper} {op : Oper} {a : Act} {w : World} {Q : Exit → Act → World → Prop} (hgd : op.guard = none) (x : Operand) (ho : op.op = .buildSlice 48 1 #[(0, x)])
    (n : Nat) (t : List Int) (hx : a.eval x = .agg (packOf t n))
    (h : wpList Try.prog ops Q rest (a.put op.dst (.slice (some ⟨w.heap.size, 0, none⟩) 1 1)) (w.alloc (.cells (packOf t n) 50))) : wpList Try.prog ops Q (op :: rest) a w := by
  obtain ⟨i0, hi, hz0, hz1, hz2⟩ := info_splitT Try.infoT
  refine wpList_buildSlice hgd 48 50 1 _ ho (packOf t n) i0 _ Try.underlying48 hi hz0 (by rw [hz1]; decide) (by rw [hz1]; decide) ?_ h
  rw [hz1]
  simp only [List.map_toArray, List.map_cons, List.map_nil, hx]
  exact fill_tok n t _ (by simp)

theorem tok_cells (n : Nat) (t : List Int) (w : World) : ∀ j u, (encT n t)[j]? = some u → (w.alloc (.cells (packOf t n) 50)).cell? ((⟨w.heap.size, 0, none⟩ : Addr).add j) = some u := by
  intro j u hu
  rw [Addr.add_mid, cell_of_row _ _ _ _ _ _ (heap_alloc_new w _), Nat.zero_add]
  simpa [encT] using hu

/-- How leastTokens ends. -/
def LeEnd (n B : Nat) (ds : List (List Int)) (w : World) (e : Ending) (w' : World) : Prop :=
  ∃ ds' a q c, e = .returned (.slice a q c) ∧ ds'.length = ds.length ∧ (∀ x, x ∈ ds' ↔ x ∈ ds) ∧ ds'.Pairwise (fun x y => ¬ cfT n y x < 0) ∧ (keepL n ds').length = q ∧ q ≤ ds.length ∧ TokRow n w' a (keepL n ds') ∧ Below B w w'

theorem keep_yes {n k : Nat} {D : List (List Int)} (hk : k < D.length) (h : (keepL n (D.take k)).any (fun u => covL n (D.getD k []) u) = true) : keepL n (D.take (k + 1)) = keepL n (D.take k) := by
  rw [keepL_take hk]; unfold keepStep; rw [if_pos h]
theorem keep_no {n k : Nat} {D : List (List Int)} (hk : k < D.length) (h : (keepL n (D.take k)).any (fun u => covL n (D.getD k []) u) = false) : keepL n (D.take (k + 1)) = keepL n (D.take k) ++ [D.getD k []] := by
  rw [keepL_take hk]; unfold keepStep; rw [if_neg (by rw [h]; decide)]

theorem below_box (w : World) (cs : Array Value) (o : Obj) : Below w.heap.size w ((w.alloc o).setRow w.heap.size cs) := below_setRow ((Below.refl _ _).alloc (Nat.le_refl _) _) _ (Nat.le_refl _) _

set_option maxHeartbeats 2000000 in
theorem least_any (n B m c : Nat) (hn : n ≤ 16) (ds : List (List Int)) (w : World) (hB : B < w.heap.size) (hH : HoldsK (encT n) 16 w B 0 ds.toArray) (hm : ds.length = m) (hl : m ≤ 400) :
    Calls Try.prog 25 #[.slice (some ⟨B, 0, none⟩) m c] w fun e w' => LeEnd n B ds w e w' := by
  subst hm
  have HS := hide (sortT_any n B c ds w hB hH hl)
  obtain ⟨i0, hi, hz0, hz1, hz2⟩ := info_splitT Try.infoT
  have HI := hide (And.intro hi (And.intro hz0 (And.intro hz1 hz2)))
  clear hH hi hz0 hz1 hz2
  go_enter Try.func25, Try.ntmps25
  go_wp2_with fail
  refine HS.out.mono ?_
  rintro e w1 ⟨rfl, ds', hl', hmem, hpw, hrow, hbB, hsz⟩
  obtain ⟨m, hm⟩ : ∃ m, Hid (ds.length = m) := ⟨_, rfl⟩
  rw [hm.out] at hl' hl ⊢
  have HD := hide (And.intro hl' (And.intro hmem hpw))
  have HR := hide hrow
  have HB := hide hbB
  clear HS hl' hmem hpw hrow hbB
  go_wp2_with fail
  go_loopw [3, 10] (fun o i wr => ∃ k q : Nat, k ≤ m ∧ i = .int .i64 k ∧ Hid (q ≤ k) ∧ Hid (LtSt w1.heap.size w1 wr n o q (keepL n (ds'.take k)))) (fun _ i _ => m - (intOf i).toNat)
  case atStart => exact ⟨0, 0, Nat.zero_le _, rfl, Nat.le_refl _, rfl, World.ownsRow_nil _ _ _ _, Below.refl _ _, Nat.le_refl _⟩
  case round =>
    obtain ⟨k, q, hk, rfl, hq, st⟩ := hrel
    by_cases hlt : k < m
    rotate_left
    · have hk' : k = m := by omega
      subst hk'
      have ST := st.out
      rw [List.take_of_length_le (by have := HD.out.1; omega)] at ST
      obtain ⟨a, c', rfl, hr⟩ := own_tok ST.own ST.len
      have HE : Hid (LeEnd n B ds w (.returned (.slice a q c')) wr) := ⟨ds', a, q, c', rfl, by rw [HD.out.1, hm.out], HD.out.2.1, by simpa using HD.out.2.2, ST.len, by rw [hm.out]; exact hq.out, hr, HB.out.trans (ST.bel.mono (by omega))⟩
      clear ST hr st
      go_wp2_with fail
      go_ret
      exact HE.out
    have hlt' : k < ds'.length := by have := HD.out.1; omega
    obtain ⟨b, off, eb, hbs, hr⟩ := (HR.out.grow st.out.bel).at hlt'
    obtain ⟨rfl, rfl⟩ : B = b ∧ 0 = off := by simpa using eb
    rw [Nat.zero_add] at hr
    clear eb
    have hg0 := heap_alloc_new wr (.cells #[.int .u8 0, .int .u8 0, .int .u8 0, .int .u8 0, .int .u8 0, .int .u8 0, .int .u8 0, .int .u8 0, .int .u8 0, .int .u8 0, .int .u8 0, .int .u8 0, .int .u8 0, .int .u8 0, .int .u8 0, .int .u8 0] 50)
    obtain ⟨t, ht⟩ : ∃ t, Hid (ds'.getD k [] = t) := ⟨_, rfl⟩
    rw [ht.out] at hr
    have h5 := setRow_same hg0 (packOf t n)
    have HBX := hide (below_box wr (packOf t n) (.cells #[.int .u8 0, .int .u8 0, .int .u8 0, .int .u8 0, .int .u8 0, .int .u8 0, .int .u8 0, .int .u8 0, .int .u8 0, .int .u8 0, .int .u8 0, .int .u8 0, .int .u8 0, .int .u8 0, .int .u8 0, .int .u8 0] 50))
    have ST := hide (st.out.grow HBX.out)
    obtain ⟨oa, oc, rfl, hrow⟩ := own_tok ST.out.own ST.out.len
    have HC := hide (containsT_any n hn oa q oc _ t _ hrow ST.out.len (by have := hq.out; omega))
    obtain ⟨L, hL⟩ : ∃ L, Hid (L = keepL n (ds'.take k)) := ⟨_, rfl⟩
    rw [← hL.out] at HC ST
    clear hrow st
    go_wp2_with (first
      | refine wpList_load_tok rfl (.tmp 12) rfl _ _ rfl _ _ hr.out ?_
      | refine wpList_store_row rfl 50 (.tmp 5) _ rfl _ _ rfl rfl 50 _ hg0 (by rw [packOf_size]; exact Try.size50) (by rw [packOf_size]; rfl) (packOf_one _ _) ?_
      | refine wpList_load_row rfl 50 (.tmp 5) rfl _ rfl 50 (packOf t n) (0, 0) _ h5 Try.underlying50 rfl (by rw [packOf_size]; exact Try.size50) ?_)
    refine HC.out.mono ?_
    rintro e w2 ⟨rfl, hb2⟩
    have h52 := (hb2.block wr.heap.size (Array.getElem?_eq_some_iff.mp h5).1).trans h5
    have ST2 := hide (ST.out.grow hb2)
    clear hb2 HC ST HBX h5 hg0 hr
    cases hh : L.any fun u => covL n t u
    · have HK : Hid (keepL n (ds'.take (k + 1)) = L ++ [t]) := by
        show _ = _
        rw [hL.out, ← ht.out]
        exact keep_no hlt' (by rw [ht.out, ← hL.out]; exact hh)
      have ST3 := hide (ST2.out.grow ((Below.refl w2.heap.size w2).alloc (Nat.le_refl _) (.cells (packOf t n) 50)))
      have hq4 : q ≤ 400 := by have := hq.out; omega
      have hlo : w1.heap.size ≤ w2.heap.size := ST2.out.low
      obtain ⟨hi, hz0, hz1, hz2⟩ := HI.out
      clear hh
      go_wp2_with (first
        | refine wpList_load_row rfl 50 (.tmp 5) rfl _ rfl 50 (packOf t n) (0, 0) _ h52 Try.underlying50 rfl (by rw [packOf_size]; exact Try.size50) ?_
        | refine wpList_build_tok rfl (.tmp 20) rfl n t rfl ?_
        | (at_builtin; refine wpList_append_own _ rfl (.tmp 19) (.tmp 21) 48 rfl w1.heap.size 50 i0 _ 16 16 Try.underlying48 hi hz0 hz1 hz2 rfl (by decide) _ q _ rfl ST3.out.own ⟨w2.heap.size, 0, none⟩ 1 1 (encT n t) rfl (encT_len n t) (tok_cells n t w2) (encT_one n t) (by unfold maxLen; omega) (by omega) (by simp; omega) ?_
           intro v' w3 r1 r2 _
           have ST4 := hide (ST3.out.step r1 r2)
           clear r1 r2))
      go_roundw
      case rel => exact ⟨k + 1, q + 1, by omega, by go_num, by have := hq.out; show _ ≤ _; omega, by rw [HK.out]; exact ST4⟩
      case measure => simp [intOf]; omega
    · have HK : Hid (keepL n (ds'.take (k + 1)) = L) := by
        show _ = _
        rw [hL.out]
        exact keep_yes hlt' (by rw [ht.out, ← hL.out]; exact hh)
      clear hh
      go_wp2_with fail
      go_roundw
      case rel => exact ⟨k + 1, q, by omega, by go_num, by have := hq.out; show _ ≤ _; omega, by rw [HK.out]; exact ST2⟩
      case measure => simp [intOf]; omega
end Go.Proofs.Yteanbjhlfplojaa
