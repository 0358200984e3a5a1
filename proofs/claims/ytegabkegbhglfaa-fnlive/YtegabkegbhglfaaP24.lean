/- Contracts that the proof stands on, one behind the other. -/
import Derived.Test.YtegabkegbhglfaaP23
/- What alwaysTo keeps in mind: those that are met, in a row of the call's own, and a row of truths. -/
namespace Go.Proofs.Ytegabkegbhglfaa
open Go.RowKit
set_option maxRecDepth 10000

def gdL (gd : Nat → Bool) (k : Nat) : List Nat := (List.range k).filter gd
def gdF (gd : Nat → Bool) (k : Nat) : Nat → Bool := fun i => decide (i < k) && gd i

theorem gdL_yes {gd : Nat → Bool} {k : Nat} (h : gd k = true) : gdL gd (k + 1) = gdL gd k ++ [k] ∧ gdF gd (k + 1) = updT (gdF gd k) k := by
  refine ⟨by simp [gdL, List.range_succ, List.filter_append, h], funext fun i => ?_⟩
  unfold gdF updT
  by_cases e : i = k
  · subst e; simp [h]
  · have e1 : (k == i) = false := by simpa using fun q => e q.symm
    have e2 : decide (i < k + 1) = decide (i < k) := by simp only [decide_eq_decide]; omega
    rw [e1, e2, Bool.or_false]
theorem gdL_no {gd : Nat → Bool} {k : Nat} (h : gd k = false) : gdL gd (k + 1) = gdL gd k ∧ gdF gd (k + 1) = gdF gd k := by
  refine ⟨by simp [gdL, List.range_succ, List.filter_append, h], funext fun i => ?_⟩
  unfold gdF
  by_cases e : i = k
  · subst e; simp [h]
  · have e2 : decide (i < k + 1) = decide (i < k) := by simp only [decide_eq_decide]; omega
    rw [e2]

theorem gd_back (ar : List (Nat × Nat × Nat)) (gd : Nat → Bool) (N : Nat) : BackSt ar (fun i => i < N ∧ gd i = true) N 0 (gdL gd N) (gdF gd N) := by
  have key : ∀ i, gdF gd N i = true ↔ i < N ∧ gd i = true := fun i => by simp [gdF]
  refine ⟨fun x hx => ?_, fun i => ?_, ?_, fun i hi => (key i).2 hi, fun i hi => .at_ ((key i).1 hi), fun x hx => by simp at hx⟩
  · simp [gdL] at hx; exact hx.1
  · rw [key i]; simp [gdL]
  · unfold cntT gdL
    congr 1
    apply List.filter_congr
    intro i hi
    have : i < N := by simpa using hi
    simp [gdF, this]

/-- Block F (the first one behind v) holds the truths f; o is a slice of those that are met. -/
structure CoSt (v wr : World) (N : Nat) (o : Value) (come : List Nat) (f : Nat → Bool) : Prop where
  bel : Below v.heap.size v wr
  row : BRow wr v.heap.size N f
  own : wr.ownsRow (v.heap.size + 1) 3 1 o come.length (intsV come)

theorem CoSt.grow {v wr wr' : World} {N : Nat} {o : Value} {come : List Nat} {f : Nat → Bool} (h : CoSt v wr N o come f) (hb : Below wr.heap.size wr wr') : CoSt v wr' N o come f :=
  ⟨h.bel.trans (hb.mono h.bel.size), h.row.grow hb, ownsRow_kept h.own fun g hg => hb.block g (own_lt h.own hg).2⟩

theorem CoSt.first (v : World) (N : Nat) : CoSt v (v.alloc (.cells (madeCells #[.bool false] N) 4)) N (.slice none 0 0) [] (fun _ => false) :=
  ⟨below_al v _, BRow.made v N, World.ownsRow_nil _ _ _ _⟩

theorem CoSt.push {v wr W' : World} {N : Nat} {o v' : Value} {come : List Nat} {f f' : Nat → Bool} {x : Nat} (h : CoSt v wr N o come f) (hx : x < N) (hr : W'.ownsRow (v.heap.size + 1) 3 1 v' (come.length + 1) (intsV come ++ [.int .i64 (x : Int)])) (hg : wr.grownBy W' o.ownBlock) (hf : ∀ t, f' t = (f t || x == t)) :
    CoSt v (W'.setCell ⟨v.heap.size, x, none⟩ (.bool true)) N v' (come ++ [x]) f' := by
  obtain ⟨C, h1, h2, h3⟩ := h.row
  have hne : ∀ g, o.ownBlock = some g → g ≠ v.heap.size := fun g hgg => by have := (own_lt h.own hgg).1; omega
  have hF : W'.heap[v.heap.size]? = some (.cells C 4 (0, 0)) := (hg.block _ (row_lt h1) (fun e => hne _ e.symm rfl)).trans h1
  refine ⟨(h.bel.grown hg h.bel.size (fun g hgg => by have := (own_lt h.own hgg).1; omega)).setCell (p := ⟨v.heap.size, x, none⟩) (Nat.le_refl _) _, BRow.set ⟨C, hF, h2, h3⟩ hx hf, ?_⟩
  rw [List.length_append, intsV_snocU]
  exact ownsRow_kept hr fun g hgg => Below.heap_setCell _ _ _ _ (show g ≠ v.heap.size by have := (own_lt hr hgg).1; omega)

theorem CoSt.spot {v wr W' : World} {N : Nat} {o : Value} {come : List Nat} {f : Nat → Bool} {x : Nat} (h : CoSt v wr N o come f) (hg : wr.grownBy W' o.ownBlock) (hx : x < N) : W'.cell? ⟨v.heap.size, x, none⟩ = some (.bool (f x)) ∧ W'.frozen? ⟨v.heap.size, x, none⟩ = false := by
  obtain ⟨C, h1, h2, h3⟩ := h.row
  have hne : ∀ g, o.ownBlock = some g → g ≠ v.heap.size := fun g hgg => by have := (own_lt h.own hgg).1; omega
  have hF : W'.heap[v.heap.size]? = some (.cells C 4 (0, 0)) := (hg.block _ (row_lt h1) (fun e => hne _ e.symm rfl)).trans h1
  exact (BRow.cell ⟨C, hF, h2, h3⟩ hx)

/-- The blocks from R on that were there in w9 stay as they were; o's block is none of them. -/
structure Far (w9 wq : World) (R : Nat) (o : Value) : Prop where
  same : ∀ g, R ≤ g → g < w9.heap.size → wq.heap[g]? = w9.heap[g]?
  own : ∀ g, o.ownBlock = some g → g < R ∨ w9.heap.size ≤ g
  size : w9.heap.size ≤ wq.heap.size

theorem lies_of {o : Value} {g g' n cp S H : Nat} (hl : o.ownBlock = some g ∨ g = H + 1) (hg : (Value.slice (some ⟨g, 0, none⟩) n cp).ownBlock = some g') (hS : S ≤ H) : o.ownBlock = some g' ∨ S ≤ g' := by
  simp [Value.ownBlock] at hg
  subst hg
  rcases hl with q | q
  · exact .inl q
  · exact .inr (by omega)

theorem Far.first (w9 : World) (R : Nat) {o : Value} (h : ∀ g, o.ownBlock = some g → g < R) : Far w9 w9 R o := ⟨fun _ _ _ => rfl, fun g hg => .inl (h g hg), Nat.le_refl _⟩

theorem Far.push {w9 wq W1 W' : World} {R F x : Nat} {o v' : Value} (h : Far w9 wq R o) (hb : Below wq.heap.size wq W1) (hg : W1.grownBy W' o.ownBlock) (hv : ∀ g, v'.ownBlock = some g → o.ownBlock = some g ∨ w9.heap.size ≤ g) (hF : F < R) (u : Value) : Far w9 (W'.setCell ⟨F, x, none⟩ u) R v' := by
  refine ⟨fun g h1 h2 => ?_, fun g hg' => ?_, ?_⟩
  · refine (Below.heap_setCell _ _ _ _ (show g ≠ F by omega)).trans ((hg.block g (by have := hb.size; have := h.size; omega) (fun e => ?_)).trans ((hb.block g (by have := h.size; omega)).trans (h.same g h1 h2)))
    rcases h.own g e.symm with q | q <;> omega
  · rcases hv g hg' with q | q
    · exact h.own g q
    · exact .inr q
  · rw [size_setCell]; have := hb.size; have := hg.size; have := h.size; omega

theorem CoSt.at_ {v wr : World} {N : Nat} {o : Value} {come : List Nat} {f : Nat → Bool} (h : CoSt v wr N o come f) {k x : Nat} (hx : come[k]? = some x) : ∃ g cap, o = .slice (some ⟨g, 0, none⟩) come.length cap ∧ wr.cell? ⟨g, k, none⟩ = some (.int .i64 (x : Int)) := by
  have hk : k < come.length := (List.getElem?_eq_some_iff.mp hx).1
  have ho := h.own
  rcases ho.2 with ⟨_, h0⟩ | ⟨g, cap, cur, rfl, hb, hg, hn, hc, hs, ht⟩
  · omega
  · refine ⟨g, cap, rfl, ?_⟩
    rw [ho.cellAt k (by omega)]
    simp [intsV, List.getElem?_map, hx]

theorem CoSt.form {v wr : World} {N : Nat} {o : Value} {come : List Nat} {f : Nat → Bool} (h : CoSt v wr N o come f) : ∃ a c, o = .slice a come.length c := by
  rcases h.own.2 with ⟨rfl, h0⟩ | ⟨g, cap, cur, rfl, _⟩
  · exact ⟨none, 0, by rw [h0]⟩
  · exact ⟨_, _, rfl⟩

/-- A row of the ones that fire there, read later. -/
theorem AhSt.later {w9 wq : World} {R N base : Nat} {rows : Nat → List Nat} {V : Nat → Value} (h : AhSt w9 R N base rows V) {o : Value} (hf : Far w9 wq R o) {x : Nat} (hx : x < N) : wq.cell? ⟨R, x, none⟩ = some (V x) ∧ Tail wq base 1 (V x) (rows x).length (intsV (rows x)) := by
  obtain ⟨C, h1, h2, h3⟩ := h.outer
  refine ⟨?_, (h.row x hx).kept hf.size fun g hg => hf.same g (by have := ((h.row x hx).lt hg).1; have := h.low; omega) ((h.row x hx).lt hg).2⟩
  rw [cell_of_row wq R x C _ _ ((hf.same R (Nat.le_refl _) (row_lt h1)).trans h1)]
  exact h3 x hx

theorem Tail.atU {w : World} {B : Nat} {va : Option Addr} {vc n : Nat} {rs : List Nat} (h : Tail w B 1 (.slice va n vc) n (intsV rs)) {j y : Nat} (hy : rs[j]? = some y) : ∃ g off, va = some ⟨g, off, none⟩ ∧ w.cell? ⟨g, off + j, none⟩ = some (.int .i64 (y : Int)) := by
  have hl := h.1
  have hj : j < rs.length := (List.getElem?_eq_some_iff.mp hy).1
  have hl2 : (intsV rs).length = rs.length := by simp [intsV]
  rcases h.2 with ⟨_, h0⟩ | ⟨g, off, cap, e, _, _, _, _, h5, _⟩
  · omega
  · simp only [Value.slice.injEq] at e
    obtain ⟨rfl, _, _⟩ := e
    exact ⟨g, off, rfl, h5 j _ (by simp [intsV, List.getElem?_map, hy])⟩

/-- How alwaysTo ends. -/
def AtEnd (ar : List (Nat × Nat × Nat)) (gd : Nat → Bool) (N : Nat) (w : World) (e : Ending) (w' : World) : Prop :=
  ∃ b, e = .returned (.bool b) ∧ (b = true ↔ ∀ i, i < N → CanTo ar (fun x => x < N ∧ gd x = true) i) ∧ Below w.heap.size w w'

theorem one_cellU (w : World) (x : Int) : ∀ j u, ([.int .i64 x] : List Value)[j]? = some u → (w.alloc (.cells #[.int .i64 x] 3)).cell? ((⟨w.heap.size, 0, none⟩ : Addr).add j) = some u := one_cell w _
end Go.Proofs.Ytegabkegbhglfaa


/- alwaysTo with the closure (impl.markSpace).neverLoses$1. -/
namespace Go.Proofs.Ytegabkegbhglfaa
open Go.RowKit
set_option maxRecDepth 10000

set_option maxHeartbeats 4000000 in
theorem alwaysLive_any (p : Int) (n BS mb G N B l : Nat) (q : Addr) (aa : Option Addr) (ac : Nat) (ms : List (List Int)) (gd : Nat → Bool) (ar : List (Nat × Nat × Nat)) (w : World) (h : w.ownsRow B 49 3 (.slice aa ar.length ac) ar.length (arcsL ar)) (ht : TokAll w G l ms) (hms : ms.length = N) (hN : N ≤ 400) (hlen : ar.length ≤ 9600) (har : ∀ a ∈ ar, a.1 < N ∧ a.2.2 < N)
    (hc : ∀ W, Below w.heap.size w W → ∀ k, k < N → Calls Try.prog 124 #[.agg (packOf (ms.getD k []) l), .pointer (some q)] W fun e W' => e = .returned (.bool (gd k)) ∧ Below W.heap.size W W') :
    Calls Try.prog 94 #[.agg (spV p n BS mb G N (.slice aa ar.length ac)), .func (.func 124) #[] #[.pointer (some q)]] w fun e w' => AtEnd ar gd N w e w' := by
  obtain ⟨N2, hN2⟩ : ∃ n, Hid (ar.length = n) := ⟨_, rfl⟩
  have HAR := hide har
  have HMS := hide hms
  have HCC := hide hc
  have HTT := hide ht
  have hlen2 := hlen
  rw [hN2.out] at hlen
  obtain ⟨av, hav⟩ : ∃ av, Hid (Value.slice aa ar.length ac = av) := ⟨_, rfl⟩
  have hav1 : av.oneCell' = true := by rw [← hav.out]; rfl
  have HO := hide h
  rw [hav.out]
  have hAl := below_al w (.cells (spV p n BS mb G N av) 102)
  have HV0 := hide (heap_alloc_new w (.cells (spV p n BS mb G N av) 102))
  have HB0 := hide hAl
  have hmk := run_make_many (P := Try.prog) 131 4 (.bool false) 1 1 Try.underlying131 Try.info4 .i64 .i64 N (by omega) (by omega)
  obtain ⟨i0, hi, hz0, hz1, hz2⟩ := info_split Try.info3
  clear h hAl har hms hc ht
  go_enter Try.func94, Try.ntmps94
  go_upto_region 2 with fail
  generalize w.alloc (.cells (spV p n BS mb G N av) 102) = v at *
  obtain ⟨⟨hc0, hc1, hc2, hc3, hc4⟩, _⟩ := cells5 HV0.out
  have HC1 := hide (CoSt.first v N)
  go_upto_region 3 with fail
  clear hmk hc0 hc1 hc2 hc3 hc4
  generalize v.alloc (.cells (madeCells #[.bool false] N) 4) = v1 at *
  obtain ⟨⟨hc0, hc1, hc2, hc3, hc4⟩, _⟩ := cells5 (keep HV0.out HC1.out.bel)
  have hvs := HB0.out.size
  go_wp2_with fail
  clear hc0 hc1 hc2 hc3 hc4
  go_loopw [5, 20] (fun o i wr => ∃ k : Nat, k ≤ N ∧ i = .int .i64 k ∧ Hid (CoSt v wr N o (gdL gd k) (gdF gd k))) (fun _ i _ => N - (intOf i).toNat)
  case atStart => exact ⟨0, Nat.zero_le _, rfl, by rw [show gdF gd 0 = fun _ => false from by funext i; simp [gdF]]; exact HC1⟩
  case round =>
    obtain ⟨k, hk, rfl, hco⟩ := hrel
    by_cases hlt : k < N
    rotate_left
    · have hk' : k = N := by omega
      have HCO := hide hco.out
      rw [hk'] at HCO
      have hkk : ¬ (k : Int) < (N : Int) := by omega
      clear hco hk hk' hlt
      have HBK := hide (gd_back ar gd N)
      generalize gdL gd N = cs at *
      generalize gdF gd N = cf at *
      have hz5 := keep HV0.out HCO.out.bel
      have hFw : v.heap.size < wr.heap.size := row_lt HCO.out.row.choose_spec.1
      have HAH := hide (ahead_any p n BS mb G N B aa ac ar wr (ownsRow_kept HO.out fun g hg => (HB0.out.trans (HCO.out.bel.mono hvs)).block g (own_lt HO.out hg).2) hN hlen2 HAR.out)
      rw [hav.out] at HAH
      have HOL : Hid (∀ g, u5.ownBlock = some g → g < wr.heap.size) := fun g hg => (own_lt HCO.out.own hg).2
      go_wp2_with (first
        | ((show wpList _ _ _ (⟨some 36, .load 102 (.tmp 2), _, _, _, _⟩ :: _) _ _); refine wpList_load_row rfl 102 (.tmp 2) rfl _ rfl 102 (spV p n BS mb G N av) (0, 0) _ hz5 Try.underlying102 rfl Try.size102 ?_)
        | (go_at_call 127; refine HAH.out.mono ?_; rintro e w9 ⟨R, base, V, rfl, hR, hah, hb9⟩; have HAS := hide hah; have HCO9 := hide (HCO.out.grow hb9); have HFAR := hide (Far.first w9 R (o := u5) (fun g hg => Nat.lt_of_lt_of_le (HOL.out g hg) hR)); clear hah hb9))
      clear HAH hz5 HOL
      generalize u5 = o5 at *
      clear HCO
      have hFR : v.heap.size < R := by omega
      go_loopw [5, 10] (fun o i wq => ∃ (k : Nat) (come : List Nat) (f : Nat → Bool), k ≤ come.length ∧ i = .int .i64 k ∧ Hid (CoSt v wq N o come f) ∧ Hid (BackSt ar (fun i => i < N ∧ gd i = true) N k come f) ∧ Hid (Far w9 wq R o)) (fun _ i _ => N - (intOf i).toNat)
      case atStart => exact ⟨0, cs, cf, Nat.zero_le _, rfl, HCO9, HBK, HFAR⟩
      case round =>
        obtain ⟨k2, come, f, hk2, rfl, hco2, hbk, hfar⟩ := hrel
        clear HCO9 HBK HFAR
        have hcN : come.length ≤ N := by rw [hbk.out.cnt]; exact cntT_le _ _
        by_cases hlt2 : k2 < come.length
        rotate_left
        · have HEQ : Hid (come.length = N ↔ ∀ i, i < N → CanTo ar (fun x => x < N ∧ gd x = true) i) := by
            show _ ↔ _
            rw [hbk.out.cnt, cntT_all]
            exact ⟨fun h i hi => (hbk.out.fin (by omega) i).1 (h i hi), fun h i hi => (hbk.out.fin (by omega) i).2 (h i hi)⟩
          have HBW := hide (HB0.out.trans (hco2.out.bel.mono hvs))
          obtain ⟨⟨hc0, hc1, hc2, hc3, hc4⟩, _⟩ := cells5 (keep HV0.out hco2.out.bel)
          obtain ⟨oa, oc, rfl⟩ := hco2.out.form
          have hnl : ¬ (k2 : Int) < (come.length : Int) := by omega
          clear hbk hfar hco2 hlt2 hk2
          generalize come.length = cl at *
          by_cases hcl : cl = N
          · subst hcl
            have hyes := HEQ.out.1 rfl
            have HY := hide hyes
            clear HEQ hyes
            go_wp2_with fail
            go_ret
            exact ⟨true, rfl, ⟨fun _ => HY.out, fun _ => rfl⟩, HBW.out⟩
          · have hne : ((cl : Int) == (N : Int)) = false := by simp; omega
            have HNN : Hid (¬ ∀ i, i < N → CanTo ar (fun x => x < N ∧ gd x = true) i) := fun h => hcl (HEQ.out.2 h)
            clear HEQ
            go_wp2_with fail
            go_ret
            exact ⟨false, rfl, ⟨fun h => (by cases h), fun h => absurd h HNN.out⟩, HBW.out⟩
        obtain ⟨x, hx⟩ : ∃ x, Hid (come[k2]? = some x) := ⟨_, List.getElem?_eq_getElem hlt2⟩
        have hxN : x < N := hbk.out.lt x (List.mem_of_getElem? hx.out)
        obtain ⟨og, oc, hou, hcx⟩ := hco2.out.at_ hx.out
        obtain ⟨hrx, hta⟩ := HAS.out.later hfar.out hxN
        obtain ⟨va, vc, hva⟩ := hta.form
        rw [hva] at hrx hta
        have HTA9 : Hid (V x = .slice va (toL ar x).length vc) := hva
        have hln : (toL ar x).length ≤ 9600 := by have := toL_len ar x; omega
        obtain ⟨ln, hlne⟩ : ∃ ln, Hid ((toL ar x).length = ln) := ⟨_, rfl⟩
        rw [hlne.out] at hrx hta HTA9 hln
        have hki : (k2 : Int) < (come.length : Int) := by omega
        have hxi : (x : Int) < (N : Int) := by omega
        have hx0 : (0 : Int) ≤ (x : Int) := by omega
        have hk20 : (0 : Int) ≤ (k2 : Int) := by omega
        have hk24 : (k2 : Int) ≤ 400 := by omega
        have HK2 := hide hlt2
        have HCN := hide hcN
        clear hta hva
        subst hou
        go_wp2_with fail
        clear hcx hrx
        generalize wr = wq0 at *
        clear hki
        go_loopw [5, 52] (fun o j wq => ∃ (jj : Nat) (come' : List Nat) (f' : Nat → Bool), jj ≤ ln ∧ j = .int .i64 jj ∧ Hid (CoSt v wq N o come' f') ∧ Hid (BackSt ar (fun i => i < N ∧ gd i = true) N k2 come' f') ∧ Hid (Far w9 wq R o) ∧ Hid (come'[k2]? = some x) ∧ Hid (∀ i ∈ (toL ar x).take jj, f' i = true)) (fun _ j _ => ln - (intOf j).toNat)
        case atStart => exact ⟨0, come, f, Nat.zero_le _, rfl, hco2, hbk, hfar, hx, fun i hi => by simp at hi⟩
        case round =>
          obtain ⟨jj, come', f', hjj, rfl, hco3, hbk3, hfar3, hx3, hall⟩ := hrel
          clear hco2 hbk hfar hx
          by_cases hlt3 : jj < ln
          rotate_left
          · have HNX := hide (hbk3.out.next hx3.out (fun i t hi => hall.out i (by rw [List.take_of_length_le (by rw [hlne.out]; omega)]; exact toL_mem.2 ⟨t, hi⟩)))
            have hk3 : k2 + 1 ≤ come'.length := (List.getElem?_eq_some_iff.mp hx3.out).1
            have hkN2 : k2 < N := by have := HCN.out; have := HK2.out; omega
            have hnl : ¬ (jj : Int) < (ln : Int) := by omega
            clear hbk3 hx3 hall hlt3 hjj
            go_wp2_with fail
            go_roundw
            case rel => exact ⟨k2 + 1, come', f', hk3, by go_num, hco3, HNX, hfar3⟩
            case measure => simp [intOf]; omega
          obtain ⟨y, hy⟩ : ∃ y, Hid ((toL ar x)[jj]? = some y) := ⟨_, List.getElem?_eq_getElem (by rw [hlne.out]; exact hlt3)⟩
          obtain ⟨t, hta⟩ := toL_mem.1 (List.mem_of_getElem? hy.out)
          have HTA := hide hta
          have hyN : y < N := (HAR.out _ hta).1
          obtain ⟨_, htl⟩ := HAS.out.later hfar3.out hxN
          rw [HTA9.out, hlne.out] at htl
          obtain ⟨yg, yo, rfl, hcy⟩ := htl.atU hy.out
          obtain ⟨hs0, hs1⟩ := hco3.out.row.cell hyN
          have hji : (jj : Int) < (ln : Int) := by omega
          have hj0 : (0 : Int) ≤ (jj : Int) := by omega
          have hj9 : (jj : Int) ≤ 9600 := by omega
          have hyi : (y : Int) < (N : Int) := by omega
          have hy0 : (0 : Int) ≤ (y : Int) := by omega
          have hy4 : (y : Int) ≤ 400 := by omega
          have hclen : come'.length ≤ N := by rw [hbk3.out.cnt]; exact cntT_le _ _
          have HALL : Hid (∀ g : Nat → Bool, (∀ i, f' i = true → g i = true) → g y = true → ∀ i ∈ (toL ar x).take (jj + 1), g i = true) := fun g h1 h2 i hi => by
            rw [List.take_add_one, hy.out] at hi
            rcases List.mem_append.1 hi with q | q
            · exact h1 i (hall.out i q)
            · simp at q; rw [q]; exact h2
          clear htl hta hall
          cases hfy : f' y
          · rw [hfy] at hs0
            have HMT := hide (hbk3.out.meet (List.mem_of_getElem? hx3.out) HTA.out hyN hfy (by have := (List.getElem?_eq_some_iff.mp hx3.out).1; omega))
            have HX3 : Hid ((come' ++ [y])[k2]? = some x) := by
              have hl := (List.getElem?_eq_some_iff.mp hx3.out).1
              show _ = _
              rw [List.getElem?_append_left hl]; exact hx3.out
            have HA2 := hide (HALL.out (updT f' y) (fun i hi => updT_old hi) (updT_at f' y))
            have hA2 := below_al wr (.cells #[.int .i64 (y : Int)] 3)
            have HA3 := hide hA2
            have HCO4 := hide (hco3.out.grow hA2)
            have HFA := hide hfar3.out
            have HCE : Hid (∀ j u, ([.int .i64 (y : Int)] : List Value)[j]? = some u → (wr.alloc (.cells #[.int .i64 (y : Int)] 3)).cell? ((⟨wr.heap.size, 0, none⟩ : Addr).add j) = some u) := one_cell wr _
            have H1c : Hid (∀ u ∈ ([.int .i64 (y : Int)] : List Value), u.oneCell' = true) := fun u hu => by simp at hu; subst hu; rfl
            have HX := hide (show come'.length + 1 ≤ maxLen by unfold maxLen; omega)
            have HY := hide (show (come'.length + 1) * 8 ≤ 140737488355328 by omega)
            have HZ : Hid (v.heap.size + 1 ≤ (wr.alloc (.cells #[.int .i64 (y : Int)] 3)).heap.size) := row_lt HCO4.out.row.choose_spec.1
            have HZ9 := hide hfar3.out.size
            clear hA2 hco3 hbk3 hfar3 hx3 HALL hfy
            go_upto_region 19 with (at_builtin; refine wpList_append_lies _ rfl (.tmp 61) (.tmp 63) 30 rfl (v.heap.size + 1) 3 i0 (.int .i64 0) 1 8 Try.underlying30 hi hz0 hz1 hz2 rfl (by decide) u5 come'.length _ rfl HCO4.out.own ⟨wr.heap.size, 0, none⟩ 1 1 [.int .i64 (y : Int)] rfl rfl HCE.out H1c.out (by decide) HX.out HY.out HZ.out (wr.heap.size + 1) (by simp) ?_; intro g cp W' hown hgr hlies hglt)
            obtain ⟨hs2, hs3⟩ := HCO4.out.spot hgr hyN
            have HP := hide (HCO4.out.push hyN hown hgr (fun t => rfl))
            have HF2 := hide (Far.push (x := y) (v' := .slice (some ⟨g, 0, none⟩) (come'.length + 1) cp) HFA.out HA3.out hgr (fun g' hg' => lies_of hlies hg' HZ9.out) hFR (.bool true))
            clear hown hgr hlies hglt
            go_wp2_with fail
            go_roundw
            case rel => exact ⟨jj + 1, come' ++ [y], updT f' y, by omega, by go_num, HP, HMT, HF2, HX3, HA2⟩
            case measure => simp [intOf]; omega
          · rw [hfy] at hs0
            have HA2 := hide (HALL.out f' (fun i hi => hi) hfy)
            clear HALL hfy
            go_wp2_with fail
            go_roundw
            case rel => exact ⟨jj + 1, come', f', by omega, by go_num, hco3, hbk3, hfar3, hx3, HA2⟩
            case measure => simp [intOf]; omega
    have hrg := (HTT.out.grow (HB0.out.trans (hco.out.bel.mono hvs))).cells k (by rw [HMS.out]; exact hlt)
    obtain ⟨m, hm⟩ : ∃ m, Hid (ms.getD k [] = m) := ⟨_, rfl⟩
    rw [hm.out] at hrg
    have hkN : (k : Int) < (N : Int) := by omega
    have hk0 : (0 : Int) ≤ (k : Int) := by omega
    have hk4 : (k : Int) ≤ 400 := by omega
    have hA1 := below_al wr (.cells #[.int .u8 0, .int .u8 0, .int .u8 0, .int .u8 0, .int .u8 0, .int .u8 0, .int .u8 0, .int .u8 0, .int .u8 0, .int .u8 0, .int .u8 0, .int .u8 0, .int .u8 0, .int .u8 0, .int .u8 0, .int .u8 0] 82)
    have hg0 := heap_alloc_new wr (.cells #[.int .u8 0, .int .u8 0, .int .u8 0, .int .u8 0, .int .u8 0, .int .u8 0, .int .u8 0, .int .u8 0, .int .u8 0, .int .u8 0, .int .u8 0, .int .u8 0, .int .u8 0, .int .u8 0, .int .u8 0, .int .u8 0] 82)
    have hV := below_setRow hA1 wr.heap.size (Nat.le_refl _) (packOf m l)
    have hz := setRow_same hg0 (packOf m l)
    have HCO2 := hide (hco.out.grow hV)
    have HHC := hide (HCC.out _ (HB0.out.trans (HCO2.out.bel.mono hvs)) k hlt)
    rw [hm.out] at HHC
    have hlk : (gdL gd k).length ≤ k := by unfold gdL; have := List.length_filter_le gd (List.range k); rwa [List.length_range] at this
    have hseen := hco.out.row
    clear hco hA1 hV hseen
    go_upto_region 7 with (first
      | ((show wpList _ _ _ (⟨some 24, .load 82 (.tmp 23), _, _, _, _⟩ :: _) _ _); refine wpList_load_tokQ rfl (.tmp 23) rfl G (k * 16) rfl l m hrg ?_)
      | ((show wpList _ _ _ (⟨none, .store 82 (.tmp 8) (.tmp 24), _, _, _, _⟩ :: _) _ _); refine wpList_store_row rfl 82 _ _ rfl _ _ rfl rfl 82 _ hg0 (by rw [packOf_size]; exact Try.size82) (by rw [packOf_size]; rfl) (packOf_one _ _) ?_)
      | ((show wpList _ _ _ (⟨some 26, .load 82 (.tmp 8), _, _, _, _⟩ :: _) _ _); refine wpList_load_row rfl 82 (.tmp 8) rfl _ rfl 82 (packOf m l) (0, 0) _ hz Try.underlying82 rfl (by rw [packOf_size]; exact Try.size82) ?_))
    refine HHC.out.mono ?_
    rintro e w2 ⟨rfl, hb⟩
    have HCO3 := hide (HCO2.out.grow hb)
    clear HHC HCO2 hb hg0 hz hrg
    generalize (wr.alloc (.cells #[.int .u8 0, .int .u8 0, .int .u8 0, .int .u8 0, .int .u8 0, .int .u8 0, .int .u8 0, .int .u8 0, .int .u8 0, .int .u8 0, .int .u8 0, .int .u8 0, .int .u8 0, .int .u8 0, .int .u8 0, .int .u8 0] 82)).setRow wr.heap.size (packOf m l) = wx at *
    cases hgk : gd k
    · obtain ⟨e1, e2⟩ := gdL_no hgk
      rw [← e1, ← e2] at HCO3
      clear hgk e1 e2
      go_wp2_with fail
      go_roundw
      case rel => exact ⟨k + 1, by omega, by go_num, HCO3⟩
      case measure => simp [intOf]; omega
    · obtain ⟨e1, e2⟩ := gdL_yes hgk
      have HE := hide (And.intro e1 e2)
      clear hgk e1 e2
      generalize gdL gd k = cs at *
      generalize gdF gd k = cf at *
      have hA2 := below_al w2 (.cells #[.int .i64 (k : Int)] 3)
      have HCO4 := hide (HCO3.out.grow hA2)
      have HCE : Hid (∀ j u, ([.int .i64 (k : Int)] : List Value)[j]? = some u → (w2.alloc (.cells #[.int .i64 (k : Int)] 3)).cell? ((⟨w2.heap.size, 0, none⟩ : Addr).add j) = some u) := one_cell w2 _
      have H1c : Hid (∀ u ∈ ([.int .i64 (k : Int)] : List Value), u.oneCell' = true) := fun u hu => by simp at hu; subst hu; rfl
      have HX := hide (show cs.length + 1 ≤ maxLen by unfold maxLen; omega)
      have HY := hide (show (cs.length + 1) * 8 ≤ 140737488355328 by omega)
      have HZ : Hid (v.heap.size + 1 ≤ (w2.alloc (.cells #[.int .i64 (k : Int)] 3)).heap.size) := row_lt HCO4.out.row.choose_spec.1
      clear hA2 HCO3
      go_wp2_with (refine wpList_append_own _ rfl (.tmp 28) (.tmp 30) 30 rfl (v.heap.size + 1) 3 i0 (.int .i64 0) 1 8 Try.underlying30 hi hz0 hz1 hz2 rfl (by decide) u5 cs.length _ rfl HCO4.out.own ⟨w2.heap.size, 0, none⟩ 1 1 [.int .i64 (k : Int)] rfl rfl HCE.out H1c.out HX.out HY.out HZ.out ?_; intro v' W' r1 r2 r3; obtain ⟨hs0, hs1⟩ := HCO4.out.spot r2 hlt; have HP := hide (HCO4.out.push hlt r1 r2 (fun t => rfl)); clear r1 r2 r3)
      go_roundw
      case rel => exact ⟨k + 1, by omega, by go_num, by rw [HE.out.1, HE.out.2]; exact HP⟩
      case measure => simp [intOf]; omega
end Go.Proofs.Ytegabkegbhglfaa


/- neverLoses and IsLive of the program. -/
namespace Go.Proofs.Ytegabkegbhglfaa
open Go.RowKit
set_option maxRecDepth 10000

set_option maxHeartbeats 1000000 in
theorem liveC_any (l g s0 s1 s2 : Nat) (m : List Int) (w : World) (hf : ∀ i, 0 ≤ m.getD i 0 ∧ m.getD i 0 ≤ 50) (h0 : s0 < 2 ^ 16) (hg : w.heap[g]? = some (.cells #[.int .u16 (s0 : Int), .int .u16 (s1 : Int), .int .u16 (s2 : Int)] 121 (0, 0))) :
    Calls Try.prog 124 #[.agg (packOf m l), .pointer (some ⟨g, 0, none⟩)] w fun e w' => e = .returned (.bool (subB s0 (maskL (posL (fOf m l) 16)))) ∧ Below w.heap.size w w' := by
  have hAl := below_al w (.cells (packOf m l) 82)
  have HT0 := hide (heap_alloc_new w (.cells (packOf m l) 82))
  have HG0 := hide (keep hg hAl)
  have HB0 := hide hAl
  have HF := hide hf
  obtain ⟨M, hM⟩ : ∃ M, Hid (maskL (posL (fOf m l) 16) = M) := ⟨_, rfl⟩
  rw [hM.out]
  clear hg hAl hf
  go_enter Try.func124, Try.ntmps124
  go_upto_region 1 with fail
  generalize w.alloc (.cells (packOf m l) 82) = v at *
  have HB1 := hide HB0.out.drew
  have HT1 := hide (keep HT0.out (Below.refl _ v).drew)
  have HG1 := hide (keep HG0.out (Below.refl _ v).drew)
  refine wp_region_held_drew (S := fun W => W.heap[w.heap.size]? = some (.cells (packOf m l) 82 (0, 0)) ∧ W.heap[g]? = some (.cells #[.int .u16 (s0 : Int), .int .u16 (s1 : Int), .int .u16 (s2 : Int)] 121 (0, 0))) (by kernel_rfl) ⟨HT1.out, HG1.out⟩ (fun hHeld => ?_)
  have hSv : (fun W : World => W.heap[w.heap.size]? = some (.cells (packOf m l) 82 (0, 0)) ∧ W.heap[g]? = some (.cells #[.int .u16 (s0 : Int), .int .u16 (s1 : Int), .int .u16 (s2 : Int)] 121 (0, 0))) v.drew := ⟨HT1.out, HG1.out⟩
  clear HB0 HT0 HG0 hHeld
  generalize v.drew = v1 at *
  refine take_yes (i := 0) (some 4) (.agg (packOf m l)) rfl rfl (by kernel_rfl) (by kernel_rfl) (by kernel_rfl) (fun _ _ _ h => h) (by rfl) ?_ (by assumption) ?_
  · intro W' hSw
    obtain ⟨hz0, hz1⟩ := hSw
    exact exec_load_row 82 _ rfl _ rfl 82 _ _ _ hz0 Try.underlying82 rfl (by rw [packOf_size]; exact Try.size82)
  simp only [Act.put, List.setIfInBounds_toArray, List.set_cons_zero, List.set_cons_succ]
  refine take_yes (i := 2) (some 6) (.agg #[.int .u16 (s0 : Int), .int .u16 (s1 : Int), .int .u16 (s2 : Int)]) rfl rfl (by kernel_rfl) (by kernel_rfl) (by kernel_rfl) (fun _ _ _ h => h) (by rfl) ?_ (by assumption) ?_
  · intro W' hSw
    obtain ⟨hz0, hz1⟩ := hSw
    exact exec_load_row 121 _ rfl _ rfl 121 _ _ _ hz1 Try.underlying121 rfl Try.size121
  simp only [Act.put, List.setIfInBounds_toArray, List.set_cons_zero, List.set_cons_succ]
  refine call_next (i := 1) (some 5) rfl rfl (by kernel_rfl) (by rfl) 76 _ _ _ rfl Try.func76 (by decide) rfl #[.agg (packOf m l)] (mapw1 _ _ _ rfl) _ (markedI_any (fOf m l) v1 (fun i => by have := HF.out i; unfold fOf; split <;> omega)) ?_
  rintro e w1 ⟨rfl, rfl⟩
  have hA := below_al v1 (.cells (tokF (fOf m l)) 82)
  have HB2 := hide (HB1.out.trans (hA.mono HB1.out.size))
  have hS2 : (fun W : World => W.heap[w.heap.size]? = some (.cells (packOf m l) 82 (0, 0)) ∧ W.heap[g]? = some (.cells #[.int .u16 (s0 : Int), .int .u16 (s1 : Int), .int .u16 (s2 : Int)] 121 (0, 0))) (v1.alloc (.cells (tokF (fOf m l)) 82)) := ⟨keep HT1.out hA, keep HG1.out hA⟩
  rw [hM.out]
  refine ⟨_, rfl, hS2, fun _ => ?_⟩
  simp only [Act.put, List.setIfInBounds_toArray, List.set_cons_zero, List.set_cons_succ]
  refine call_next (i := 3) (some 7) rfl rfl (by kernel_rfl) (by rfl) 77 _ _ _ rfl Try.func77 (by decide) rfl #[.int .u16 (M : Int), .agg #[.int .u16 (s0 : Int), .int .u16 (s1 : Int), .int .u16 (s2 : Int)]] (mapw2 _ _ _ _ _ rfl rfl) _ (enables_any M s0 s1 s2 _ h0) ?_
  rintro e w2 ⟨rfl, rfl⟩
  have hA3 := below_al (v1.alloc (.cells (tokF (fOf m l)) 82)) (.cells #[.int .u16 (s0 : Int), .int .u16 (s1 : Int), .int .u16 (s2 : Int)] 121)
  have HB3 := hide (HB2.out.trans (hA3.mono HB2.out.size))
  have hS3 : (fun W : World => W.heap[w.heap.size]? = some (.cells (packOf m l) 82 (0, 0)) ∧ W.heap[g]? = some (.cells #[.int .u16 (s0 : Int), .int .u16 (s1 : Int), .int .u16 (s2 : Int)] 121 (0, 0))) ((v1.alloc (.cells (tokF (fOf m l)) 82)).alloc (.cells #[.int .u16 (s0 : Int), .int .u16 (s1 : Int), .int .u16 (s2 : Int)] 121)) := ⟨keep hS2.1 hA3, keep hS2.2 hA3⟩
  refine ⟨_, rfl, hS3, fun _ => ?_⟩
  simp only [Act.put, List.setIfInBounds_toArray, List.set_cons_zero, List.set_cons_succ]
  obtain ⟨bb, hbb⟩ : ∃ b, Hid (subB s0 M = b) := ⟨_, rfl⟩
  rw [hbb.out]
  refine take_yes (i := 4) (some 3) (.bool bb) rfl rfl (by kernel_rfl) (by kernel_rfl) (by kernel_rfl) (fun _ _ _ h => h) (by rfl) ?_ (by assumption) ?_
  · intro W' hSw
    obtain ⟨hz0, hz1⟩ := hSw
    go_simp
  simp only [Act.put, List.setIfInBounds_toArray, List.set_cons_zero, List.set_cons_succ]
  refine wpAnyH_done (by kernel_rfl) ?_ _
  go_wp2_with fail
  go_ret
  exact ⟨ret_bool hbb.out.symm, HB3.out⟩

/-- How neverLoses ends. -/
def NlEnd (ar : List (Nat × Nat × Nat)) (gd : Nat → Bool) (N : Nat) (w : World) (e : Ending) (w' : World) : Prop := AtEnd ar gd N w e w'

set_option maxHeartbeats 1000000 in
theorem never_any {p : Int} {n l : Nat} {L : List (List Int)} {ys : List Int} {bg : Int} {s : Sea} (hok : SpOk p n l L ys bg s) (B BS mb G s0 s1 s2 t : Nat) (aa : Option Addr) (ac : Nat) (w : World) (hst : SpSt B w p n l L s BS mb G (.slice aa s.ar.length ac)) (ht : t < n) (h0 : s0 < 2 ^ 16) (hs0 : maskL (L.getD (3 * t) []) = s0) :
    Calls Try.prog 82 #[.agg (spV p n BS mb G s.ms.length (.slice aa s.ar.length ac)), .agg #[.int .u16 (s0 : Int), .int .u16 (s1 : Int), .int .u16 (s2 : Int)]] w fun e w' => AtEnd s.ar (fun k => canT L (s.ms.getD k []) t) s.ms.length w e w' := by
  have hAl := (below_al w (.cells (spV p n BS mb G s.ms.length (.slice aa s.ar.length ac)) 102)).trans ((below_al (w.alloc (.cells (spV p n BS mb G s.ms.length (.slice aa s.ar.length ac)) 102)) (.cells #[.int .u16 (s0 : Int), .int .u16 (s1 : Int), .int .u16 (s2 : Int)] 121)).mono (by simp))
  have hz5 := keep (heap_alloc_new w (.cells (spV p n BS mb G s.ms.length (.slice aa s.ar.length ac)) 102)) (below_al (w.alloc (.cells (spV p n BS mb G s.ms.length (.slice aa s.ar.length ac)) 102)) (.cells #[.int .u16 (s0 : Int), .int .u16 (s1 : Int), .int .u16 (s2 : Int)] 121))
  have HG1 := hide (heap_alloc2_new w (.cells (spV p n BS mb G s.ms.length (.slice aa s.ar.length ac)) 102) (.cells #[.int .u16 (s0 : Int), .int .u16 (s1 : Int), .int .u16 (s2 : Int)] 121))
  have HST := hide (hst.grow hAl)
  have HB0 := hide hAl
  have HOK := hide hok
  have hs0' := hide hs0
  have hmf : ∀ (fn : Fn) (first cap : Array Value) (w : World), (Instr.makeFunc fn first cap).run Try.prog w = .ok (.func fn first cap) w := fun _ _ _ _ => rfl
  have HAT := hide (alwaysLive_any p n BS mb G s.ms.length B l ⟨w.heap.size + 1, 0, none⟩ aa ac s.ms (fun k => canT L (s.ms.getD k []) t) s.ar _ HST.out.arcs HST.out.toks rfl hok.m4 hok.len (arcs_lt hok)
    (fun W hW k hk => by
      have hgd := HOK.out.ok.goodAt hk
      have hb := (step_links HOK.out.net hgd HOK.out.hl ht).1
      rw [hs0'.out] at hb
      rw [← hb]
      exact liveC_any l (w.heap.size + 1) s0 s1 s2 _ W (goodB_parts hgd).2.2 h0 (keep HG1.out hW)))
  clear hst hAl hok hs0
  go_enter Try.func82, Try.ntmps82
  go_wp2_with ((show wpList _ _ _ (⟨some 5, .load 102 (.tmp 2), _, _, _, _⟩ :: _) _ _); refine wpList_load_row rfl 102 (.tmp 2) rfl _ rfl 102 (spV p n BS mb G s.ms.length (.slice aa s.ar.length ac)) (0, 0) _ hz5 Try.underlying102 rfl Try.size102 ?_)
  refine HAT.out.mono ?_
  rintro e w4 ⟨b, rfl, hb, hbw⟩
  have HE := hide (show AtEnd s.ar (fun k => canT L (s.ms.getD k []) t) s.ms.length w (.returned (.bool b)) w4 from ⟨b, rfl, hb, HB0.out.trans (hbw.mono HB0.out.size)⟩)
  clear HAT hb hbw hz5
  go_wp2_with fail
  go_ret
  exact HE.out

set_option maxHeartbeats 2000000 in
theorem liveI_any (p : Int) (a am : Option Addr) (n c nm cm : Nat) (L : List (List Int)) (ys : List Int) (bg : Int) (w : World) (h : Lists w a (3 * n) L) (rm : Row w am nm ys) (hs : sizeN n L ≤ 1048576) (hnm : nm ≤ 1048576) :
    Calls Try.prog 30 #[.agg #[.int .i64 p, .slice a n c], .slice am nm cm, .int .i64 bg] w fun e w' => IlEnd p n L ys bg w e w' := by
  have hAl := below_al w (.cells #[.int .i64 p, .slice a n c] 39)
  have HX := hide (spaceOf_any p a am n c nm cm L ys bg _ (h.below hAl) (rm.below hAl) hs hnm)
  have HB0 := hide hAl
  clear h rm hAl
  go_enter Try.func30, Try.ntmps30
  go_wp2_with fail
  generalize w.alloc (.cells #[.int .i64 p, .slice a n c] 39) = v0 at *
  refine HX.out.mono ?_
  rintro e w1 ⟨hb1, hxx⟩
  have HB1 := hide (HB0.out.trans (hb1.mono HB0.out.size))
  clear hb1 HB0 HX
  have hg0 := heap_alloc_new w1 (.cells spZ 102)
  have hA3 := below_al w1 (.cells spZ 102)
  rcases hxx with ⟨hcode, s, BS, mb, G, av, hok, hst, ⟨aa, ac, rfl⟩, rfl⟩ | ⟨hcode, rfl⟩
  rotate_left
  · have HN := hide (ilEnd_no (w := w) hcode (below_setRow (HB1.out.trans (hA3.mono HB1.out.size)) w1.heap.size HB1.out.size spZ))
    obtain ⟨cd, hcd⟩ : ∃ cd, Hid (spCode p n L ys bg = cd) := ⟨_, rfl⟩
    rw [hcd.out] at hcode ⊢
    have hc1 : ¬ ((cd : Nat) : Int) = 1 := by omega
    have hbe : (((cd : Nat) : Int) != 1) = true := by simpa using hc1
    clear hcode hcd hA3
    go_wp2_with ((show wpList _ _ _ (⟨none, .store 102 (.tmp 8) (.tmp 17), _, _, _, _⟩ :: _) _ _); refine wpList_store_row rfl 102 _ _ rfl _ _ rfl rfl 102 _ hg0 Try.size102 rfl (one5 rfl rfl rfl rfl rfl) ?_)
    go_ret2
    exact HN.out
  have hV := below_setRow hA3 w1.heap.size (Nat.le_refl _) (spV p n BS mb G s.ms.length (.slice aa s.ar.length ac))
  have HB3 := hide (HB1.out.trans (hV.mono HB1.out.size))
  have HS3 := hide (hst.grow hV)
  have HV3 := hide (setRow_same hg0 (spV p n BS mb G s.ms.length (.slice aa s.ar.length ac)))
  have HN := hide (fun W b hx (hW : Below w.heap.size w W) => ilEnd_yes (w := w) (w' := W) (b := b) hcode hok hx hW)
  have HOK := hide hok
  have hn24 := hok.n24
  have HT := hide (fun k (hk : k < n) => mask16' (tri_rise (triOkOf hok.net hk)).1 hok.hp)
  clear hA3 hV hst HB1 hcode hok
  obtain ⟨⟨hc0, hc1, hc2, hc3, hc4⟩, _⟩ := cells5 HV3.out
  have hne : ((1 : Int) != 1) = false := by decide
  go_wp2_with ((show wpList _ _ _ (⟨none, .store 102 (.tmp 8) (.tmp 17), _, _, _, _⟩ :: _) _ _); refine wpList_store_row rfl 102 _ _ rfl _ _ rfl rfl 102 _ hg0 Try.size102 rfl (one5 rfl rfl rfl rfl rfl) ?_)
  clear hg0 hc0 hc1 hc2 hc3 hc4
  generalize (w1.alloc (.cells spZ 102)).setRow w1.heap.size (spV p n BS mb G s.ms.length (.slice aa s.ar.length ac)) = v3 at *
  generalize w1.heap.size = bm at *
  go_loopw [25] (fun i wr => ∃ k : Nat, k ≤ n ∧ i = .int .i64 k ∧ Hid (∀ t, t < k → LiveT s L t) ∧ Hid (Below v3.heap.size v3 wr)) (fun i _ => n - (intOf i).toNat)
  case atStart => exact ⟨0, Nat.zero_le _, rfl, fun t ht => absurd ht (by omega), Below.refl _ _⟩
  case round =>
    obtain ⟨k, hk, rfl, hu, hbw⟩ := hrel
    by_cases hlt : k < n
    rotate_left
    · have HE := hide (HN.out wr true ⟨fun _ t ht => hu.out t (by omega), fun _ => rfl⟩ (HB3.out.trans (hbw.out.mono HB3.out.size)))
      have hnl : ¬ (k : Int) < (n : Int) := by omega
      clear hu hlt hk
      go_wp2_with fail
      go_ret2
      exact HE.out
    obtain ⟨hc0, hc1, hc2⟩ := (HS3.out.steps.grow hbw.out).at2 hlt
    obtain ⟨s0, hs0⟩ : ∃ x, Hid (maskL (L.getD (3 * k) []) = x) := ⟨_, rfl⟩
    obtain ⟨s1, hs1⟩ : ∃ x, Hid (maskL (L.getD (3 * k + 1) []) = x) := ⟨_, rfl⟩
    obtain ⟨s2, hs2⟩ : ∃ x, Hid (maskL (L.getD (3 * k + 2) []) = x) := ⟨_, rfl⟩
    have h16 := HT.out k hlt
    rw [hs0.out] at hc0 h16
    rw [hs1.out] at hc1
    rw [hs2.out] at hc2
    have hA4 := below_al wr (.cells #[.int .u16 (s0 : Int), .int .u16 (s1 : Int), .int .u16 (s2 : Int)] 121)
    have HB4 := hide (hbw.out.trans (hA4.mono hbw.out.size))
    have hz5 := keep HV3.out HB4.out
    have hz6 := heap_alloc_new wr (.cells #[.int .u16 (s0 : Int), .int .u16 (s1 : Int), .int .u16 (s2 : Int)] 121)
    have hq0 := cell_of_row _ wr.heap.size 0 _ _ _ hz6
    have hq1 := cell_of_row _ wr.heap.size 1 _ _ _ hz6
    have hq2 := cell_of_row _ wr.heap.size 2 _ _ _ hz6
    simp at hq0 hq1 hq2
    have HNV := hide (never_any HOK.out v0.heap.size BS mb G s0 s1 s2 k aa ac _ (HS3.out.grow HB4.out) hlt h16 hs0.out)
    have hki : (k : Int) < (n : Int) := by omega
    clear hA4 h16
    go_wp2_with (first
      | ((show wpList _ _ _ (⟨some 29, .load 102 (.tmp 8), _, _, _, _⟩ :: _) _ _); refine wpList_load_row rfl 102 (.tmp 8) rfl _ rfl 102 (spV p n BS mb G s.ms.length (.slice aa s.ar.length ac)) (0, 0) _ hz5 Try.underlying102 rfl Try.size102 ?_)
      | ((show wpList _ _ _ (⟨some 30, .load 121 (.tmp 11), _, _, _, _⟩ :: _) _ _); refine wpList_load_row rfl 121 (.tmp 11) rfl _ rfl 121 #[.int .u16 (s0 : Int), .int .u16 (s1 : Int), .int .u16 (s2 : Int)] (0, 0) _ hz6 Try.underlying121 rfl Try.size121 ?_))
    refine HNV.out.mono ?_
    rintro e w4 ⟨b, rfl, hb, hbw4⟩
    have HB5 := hide (HB4.out.trans (hbw4.mono HB4.out.size))
    have HLT : Hid (b = true ↔ LiveT s L k) := hb
    clear HNV hb hbw4 hz5 hz6 hq0 hq1 hq2 hc0 hc1 hc2 hbw HB4
    cases b
    · have HE := hide (HN.out w4 false ⟨fun e => (by cases e), fun e => (HLT.out.2 (e k hlt))⟩ (HB3.out.trans (HB5.out.mono HB3.out.size)))
      clear hu HLT
      go_wp2_with fail
      go_ret2
      exact HE.out
    · have HU : Hid (∀ t, t < k + 1 → LiveT s L t) := fun t ht => by
        by_cases e : t = k
        · rw [e]; exact HLT.out.1 rfl
        · exact hu.out t (by omega)
      clear hu HLT
      go_wp2_with fail
      go_roundw
      case rel => exact ⟨k + 1, by omega, by go_num, HU, HB5⟩
      case measure => simp [intOf]; omega
end Go.Proofs.Ytegabkegbhglfaa


/- FirstDead of the program. -/
namespace Go.Proofs.Ytegabkegbhglfaa
open Go.RowKit
set_option maxRecDepth 10000

set_option maxHeartbeats 400000 in
theorem indexZ_any (w : World) : Calls Try.prog 86 #[.slice none 0 0, .func (.func 87) #[.agg spZ] #[]] w fun e w' => e = .returned (.int .i64 (-1)) ∧ Below w.heap.size w w' := by
  go_enter Try.func86, Try.ntmps86
  go_wp2_with fail
  go_loopw [8] (fun i wr => i = .int .i64 0 ∧ wr = w) (fun _ _ => 0)
  case atStart => exact ⟨rfl, rfl⟩
  case round =>
    obtain ⟨rfl, rfl⟩ := hrel
    go_wp2_with fail
    go_ret
    exact ⟨rfl, Below.refl _ _⟩

theorem cell_kept {w w' : World} {a : Addr} {v : Value} (h : w.cell? a = some v) (hb : Below w.heap.size w w') : w'.cell? a = some v := by
  have hl : a.block < w.heap.size := by
    by_cases hl : a.block < w.heap.size
    · exact hl
    · simp [World.cell?, Array.getElem?_eq_none (show w.heap.size ≤ a.block by omega)] at h
  exact (hb.cell hl).trans h

set_option maxHeartbeats 1000000 in
theorem firstI_any (p : Int) (a am : Option Addr) (n c nm cm : Nat) (L : List (List Int)) (ys : List Int) (bg : Int) (w : World) (h : Lists w a (3 * n) L) (rm : Row w am nm ys) (hs : sizeN n L ≤ 1048576) (hnm : nm ≤ 1048576) :
    Calls Try.prog 32 #[.agg #[.int .i64 p, .slice a n c], .slice am nm cm, .int .i64 bg] w fun e w' => OEnd (fdOk p n L ys bg) (fdR p n L ys bg) w e w' := by
  have hAl := below_al w (.cells #[.int .i64 p, .slice a n c] 39)
  have HX := hide (spaceOf_any p a am n c nm cm L ys bg _ (h.below hAl) (rm.below hAl) hs hnm)
  have HB0 := hide hAl
  clear h rm hAl
  go_enter Try.func32, Try.ntmps32
  go_wp2_with fail
  generalize w.alloc (.cells #[.int .i64 p, .slice a n c] 39) = v0 at *
  refine HX.out.mono ?_
  rintro e w1 ⟨hb1, hxx⟩
  have HB1 := hide (HB0.out.trans (hb1.mono HB0.out.size))
  clear hb1 HB0 HX
  have hg0 := heap_alloc_new w1 (.cells spZ 102)
  have hA3 := below_al w1 (.cells spZ 102)
  rcases hxx with ⟨hcode, s, BS, mb, G, av, hok, hst, ⟨aa, ac, rfl⟩, rfl⟩ | ⟨hcode, rfl⟩
  rotate_left
  · have hz5 := setRow_same hg0 spZ
    obtain ⟨⟨hc0, hc1, hc2, hc3, hc4⟩, _⟩ := cells5 hz5
    have hBB := below_setRow (HB1.out.trans (hA3.mono HB1.out.size)) w1.heap.size HB1.out.size spZ
    have HN := hide (fun W (hW : Below ((w1.alloc (.cells spZ 102)).setRow w1.heap.size spZ).heap.size ((w1.alloc (.cells spZ 102)).setRow w1.heap.size spZ) W) => fdend_noI (w := w) (w' := W) (fdOk_code hcode) (hBB.trans (hW.mono hBB.size)))
    obtain ⟨cd, hcd⟩ : ∃ cd, Hid (spCode p n L ys bg = cd) := ⟨_, rfl⟩
    rw [hcd.out]
    clear hcode hcd hA3 hBB
    go_upto_region 2 with ((show wpList _ _ _ (⟨none, .store 102 (.tmp 8) (.tmp 16), _, _, _, _⟩ :: _) _ _); refine wpList_store_row rfl 102 _ _ rfl _ _ rfl rfl 102 _ hg0 Try.size102 rfl spZ_one ?_)
    generalize (w1.alloc (.cells spZ 102)).setRow w1.heap.size spZ = v3 at *
    clear hg0
    have HIX := hide (indexZ_any v3)
    go_wp2_with ((show wpList _ _ _ (⟨some 20, .load 102 (.tmp 8), _, _, _, _⟩ :: _) _ _); refine wpList_load_row rfl 102 (.tmp 8) rfl _ rfl 102 spZ (0, 0) _ hz5 Try.underlying102 rfl Try.size102 ?_)
    refine HIX.out.mono ?_
    rintro e w4 ⟨rfl, hb⟩
    have HE := hide (HN.out _ hb)
    clear hb
    go_wp2_with fail
    go_ret2
    exact HE.out
  have hV := below_setRow hA3 w1.heap.size (Nat.le_refl _) (spV p n BS mb G s.ms.length (.slice aa s.ar.length ac))
  have HB3 := hide (HB1.out.trans (hV.mono HB1.out.size))
  have HS3 := hide (hst.grow hV)
  have hz5 := setRow_same hg0 (spV p n BS mb G s.ms.length (.slice aa s.ar.length ac))
  have HV3 := hide hz5
  have hl16 := hok.l16
  have hm4 := hok.m4
  have hlp := hok.hl
  have HNO := hide (fun W hx (hW : Below w.heap.size w W) => fdend_noI (w' := W) (w := w) (fdOk_none hok hx) hW)
  have HYE := hide (fun W k g hx ho hg (hW : Below w.heap.size w W) => fdend_yesI (w' := W) (w := w) (k := k) (g := g) hcode hok hx ho hg hW)
  have HGO := hide (fun k (hk : k < s.ms.length) => hok.goodAt hk)
  have HIX := hide (indexT_any hok BS mb G (.slice aa s.ar.length ac) _ HS3.out.steps HS3.out.toks)
  clear hA3 hV hst HB1 hcode hok
  obtain ⟨⟨hc0, hc1, hc2, hc3, hc4⟩, _⟩ := cells5 HV3.out
  go_upto_region 2 with ((show wpList _ _ _ (⟨none, .store 102 (.tmp 8) (.tmp 16), _, _, _, _⟩ :: _) _ _); refine wpList_store_row rfl 102 _ _ rfl _ _ rfl rfl 102 _ hg0 Try.size102 rfl (spV_one _ _ _ _ _ _ _ _ _) ?_)
  clear hg0
  generalize (w1.alloc (.cells spZ 102)).setRow w1.heap.size (spV p n BS mb G s.ms.length (.slice aa s.ar.length ac)) = v3 at *
  go_wp2_with ((show wpList _ _ _ (⟨some 20, .load 102 (.tmp 8), _, _, _, _⟩ :: _) _ _); refine wpList_load_row rfl 102 (.tmp 8) rfl _ rfl 102 (spV p n BS mb G s.ms.length (.slice aa s.ar.length ac)) (0, 0) _ hz5 Try.underlying102 rfl Try.size102 ?_)
  clear hz5 hc0 hc1 hc2 hc3 hc4
  refine HIX.out.mono ?_
  rintro e w4 ⟨z, rfl, hz, hb⟩
  have HB4 := hide (HB3.out.trans (hb.mono HB3.out.size))
  have HV4 := hide (keep HV3.out hb)
  have HT4 := hide (HS3.out.toks.grow hb)
  clear HIX HV3 HS3 hb
  rcases hz.out with ⟨k, rfl, hfd⟩ | ⟨rfl, hno⟩
  rotate_left
  · have HE := hide (HNO.out _ hno HB4.out)
    clear hno
    go_wp2_with fail
    go_ret2
    exact HE.out
  have HF := hide hfd
  have hkN := hfd.1
  have HG := hide (HGO.out k hkN)
  clear hz hfd HGO HNO
  have hk0 : ¬ (k : Int) < 0 := by omega
  obtain ⟨N, hN⟩ : ∃ N, s.ms.length = N := ⟨_, rfl⟩
  rw [hN] at hkN HV4
  have hrg := HT4.out.cells k (by rw [hN]; exact hkN)
  obtain ⟨m, hm⟩ : ∃ m, Hid (s.ms.getD k [] = m) := ⟨_, rfl⟩
  rw [hm.out] at hrg HG
  have hBd := (Below.refl w4.heap.size w4).drew
  go_upto_region 5 with fail
  have HB5 := hide HB4.out.drew
  have HV5 := hide (keep HV4.out hBd)
  obtain ⟨⟨hc0, hc1, hc2, hc3, hc4⟩, _⟩ := cells5 HV5.out
  have hrg5 : w4.drew.rangeAt G (k * 16) (encQ nm m) := hrg
  refine wp_region_held_drew (S := fun W => W.cell? ⟨w1.heap.size, 0, none⟩ = some (.int .i64 p) ∧ W.cell? ⟨w1.heap.size, 3, none⟩ = some (.slice (some ⟨G, 0, none⟩) N N) ∧ W.rangeAt G (k * 16) (encQ nm m)) (by kernel_rfl) ⟨hc0, hc3, hrg5⟩ (fun hHeld => ?_)
  have HS5 := hide (show w4.drew.cell? ⟨w1.heap.size, 0, none⟩ = some (.int .i64 p) ∧ w4.drew.cell? ⟨w1.heap.size, 3, none⟩ = some (.slice (some ⟨G, 0, none⟩) N N) ∧ w4.drew.rangeAt G (k * 16) (encQ nm m) from ⟨hc0, hc3, hrg5⟩)
  have HT5 := hide (HT4.out.grow hBd)
  have hbz := row_lt HV5.out
  clear hc0 hc1 hc2 hc3 hc4 hrg hrg5 HB4 HV4 HT4 hBd
  generalize w4.drew = w5 at *
  have hkNi : (k : Int) < (N : Int) := by omega
  have hki0 : (0 : Int) ≤ (k : Int) := by omega
  have hk4 : (k : Int) ≤ 400 := by omega
  refine take_yes (i := 0) (some 25) (.pointer (some ⟨w1.heap.size, 3, none⟩)) rfl rfl (by kernel_rfl) (by kernel_rfl) (by kernel_rfl) (fun _ _ _ h => h) (by rfl) ?_ (by assumption) ?_
  · intro W' hSw
    obtain ⟨hz0, hz1, hz2⟩ := hSw
    go_simp
  simp only [Act.put, List.setIfInBounds_toArray, List.set_cons_zero, List.set_cons_succ]
  refine take_yes (i := 1) (some 26) (.slice (some ⟨G, 0, none⟩) N N) rfl rfl (by kernel_rfl) (by kernel_rfl) (by kernel_rfl) (fun _ _ _ h => h) (by rfl) ?_ (by assumption) ?_
  · intro W' hSw
    obtain ⟨hz0, hz1, hz2⟩ := hSw
    go_simp
  simp only [Act.put, List.setIfInBounds_toArray, List.set_cons_zero, List.set_cons_succ]
  refine take_yes (i := 2) (some 27) (.int .i64 (k : Int)) rfl rfl (by kernel_rfl) (by kernel_rfl) (by kernel_rfl) (fun _ _ _ h => h) (by rfl) ?_ (by assumption) ?_
  · intro W' hSw
    obtain ⟨hz0, hz1, hz2⟩ := hSw
    go_simp
  simp only [Act.put, List.setIfInBounds_toArray, List.set_cons_zero, List.set_cons_succ]
  refine take_yes (i := 3) (some 28) (.pointer (some ⟨G, k * 16, none⟩)) rfl rfl (by kernel_rfl) (by kernel_rfl) (by kernel_rfl) (fun _ _ _ h => h) (by rfl) ?_ (by assumption) ?_
  · intro W' hSw
    obtain ⟨hz0, hz1, hz2⟩ := hSw
    go_simp
  simp only [Act.put, List.setIfInBounds_toArray, List.set_cons_zero, List.set_cons_succ]
  refine take_yes (i := 4) (some 29) (.agg (packOf m nm)) rfl rfl (by kernel_rfl) (by kernel_rfl) (by kernel_rfl) (fun _ _ _ h => h) (by rfl) ?_ (by assumption) ?_
  · intro W' hSw
    obtain ⟨hz0, hz1, hz2⟩ := hSw
    exact exec_load_tokQ _ rfl G (k * 16) nm rfl m hz2
  simp only [Act.put, List.setIfInBounds_toArray, List.set_cons_zero, List.set_cons_succ]
  refine take_yes (i := 5) (some 30) (.pointer (some ⟨w1.heap.size, 0, none⟩)) rfl rfl (by kernel_rfl) (by kernel_rfl) (by kernel_rfl) (fun _ _ _ h => h) (by rfl) ?_ (by assumption) ?_
  · intro W' hSw
    obtain ⟨hz0, hz1, hz2⟩ := hSw
    go_simp
  simp only [Act.put, List.setIfInBounds_toArray, List.set_cons_zero, List.set_cons_succ]
  refine take_yes (i := 6) (some 31) (.pointer (some ⟨w1.heap.size, 0, none⟩)) rfl rfl (by kernel_rfl) (by kernel_rfl) (by kernel_rfl) (fun _ _ _ h => h) (by rfl) ?_ (by assumption) ?_
  · intro W' hSw
    obtain ⟨hz0, hz1, hz2⟩ := hSw
    go_simp
  simp only [Act.put, List.setIfInBounds_toArray, List.set_cons_zero, List.set_cons_succ]
  refine take_yes (i := 7) (some 32) (.int .i64 p) rfl rfl (by kernel_rfl) (by kernel_rfl) (by kernel_rfl) (fun _ _ _ h => h) (by rfl) ?_ (by assumption) ?_
  · intro W' hSw
    obtain ⟨hz0, hz1, hz2⟩ := hSw
    go_simp
  simp only [Act.put, List.setIfInBounds_toArray, List.set_cons_zero, List.set_cons_succ]
  subst hlp
  refine call_next (i := 8) (some 33) rfl rfl (by kernel_rfl) (by rfl) 74 _ _ _ rfl Try.func74 (by decide) rfl #[.agg (packOf m nm), .int .i64 (nm : Int)] (mapw2 _ _ _ _ _ rfl rfl) _ (list_any (fOf m nm) nm w5 hl16 (fun i => by have := HG.out.2 i; unfold fOf; split <;> omega)) ?_
  rintro e w6 ⟨rfl, rfl⟩
  have hA := (below_al w5 (.cells (tokF (fOf m nm)) 82)).trans ((below_al (w5.alloc (.cells (tokF (fOf m nm)) 82)) (.cells (cellsOf (listF (fOf m nm) nm)) 3)).mono (by simp))
  have HB6 := hide (HB5.out.trans (hA.mono HB5.out.size))
  have hnew := heap_alloc2_new w5 (.cells (tokF (fOf m nm)) 82) (.cells (cellsOf (listF (fOf m nm) nm)) 3)
  rw [listF_fOf HG.out.1] at hnew
  have HE := hide (HYE.out _ k _ HF.out (by rw [hm.out]; rw [listF_fOf HG.out.1]; exact hnew) (by have := HB5.out.size; omega) HB6.out)
  refine ⟨_, rfl, ⟨(cell_kept HS5.out.1 hA), (cell_kept HS5.out.2.1 hA), ?_⟩, fun _ => ?_⟩
  · have := (HT5.out.grow hA).cells k (by rw [hN]; exact hkN)
    rw [hm.out] at this; exact this
  simp only [Act.put, List.setIfInBounds_toArray, List.set_cons_zero, List.set_cons_succ]
  clear hA hnew HS5 HT5 hHeld
  generalize (w5.alloc (.cells (tokF (fOf m nm)) 82)).alloc (.cells (cellsOf (listF (fOf m nm) nm)) 3) = w6 at *
  refine take_yes (i := 9) (some 6) (.slice (some ⟨w5.heap.size + 1, 0, none⟩) nm nm) rfl rfl (by kernel_rfl) (by kernel_rfl) (by kernel_rfl) (fun _ _ _ h => h) (by rfl) ?_ (by assumption) ?_
  · intro W' hSw
    obtain ⟨hz0, hz1, hz2⟩ := hSw
    go_simp
  simp only [Act.put, List.setIfInBounds_toArray, List.set_cons_zero, List.set_cons_succ]
  refine take_yes (i := 10) (some 7) (.bool true) rfl rfl (by kernel_rfl) (by kernel_rfl) (by kernel_rfl) (fun _ _ _ h => h) (by rfl) ?_ (by assumption) ?_
  · intro W' hSw
    obtain ⟨hz0, hz1, hz2⟩ := hSw
    go_simp
  simp only [Act.put, List.setIfInBounds_toArray, List.set_cons_zero, List.set_cons_succ]
  refine wpAnyH_done (by kernel_rfl) ?_ _
  go_wp2_with fail
  go_ret2
  exact HE.out
end Go.Proofs.Ytegabkegbhglfaa


/- What the laws' own sameInts, big and numberOf answer. -/
namespace Go.Proofs.Ytegabkegbhglfaa
open Go.RowKit
set_option maxRecDepth 10000

set_option maxHeartbeats 400000 in
theorem sameI_any (a b : Option Addr) (n m ca cb : Nat) (xs ys : List Int) (w : World) (ha : Row w a n xs) (hb : Row w b m ys) (hn : n ≤ 1048576) :
    Calls Try.prog 22 #[.slice a n ca, .slice b m cb] w fun e w' => e = .returned (.bool (sameB xs ys)) ∧ ∃ q, w' = w.drewN q := by
  by_cases hnm : n = m
  · subst hnm
    have hne : ((n : Int) != (n : Int)) = false := by simp
    go_enter Try.func22, Try.ntmps22
    go_wp2
    clear hne
    go_loopw [13] (fun i wr => ∃ k : Nat, k ≤ n ∧ i = .int .i64 k ∧ Upto xs ys k ∧ ∃ q, wr = w.drewN q) (fun i _ => n - (intOf i).toNat)
    case atStart => exact ⟨0, Nat.zero_le _, rfl, rfl, 0, rfl⟩
    case round =>
      obtain ⟨k, hk, rfl, hu, q, rfl⟩ := hrel
      by_cases hlt : k < n
      · obtain ⟨b1, o1, x, rfl, hl1, hc1, H1⟩ := ha.at hlt
        obtain ⟨b2, o2, y, rfl, hl2, hc2, H2⟩ := hb.at hlt
        have hi1 : ((k : Int)) < ((n : Int)) := by omega
        clear ha hb
        by_cases he : x = y
        · subst he
          have HU := hu.step H1 H2
          clear hu H1 H2
          go_wp2
          go_quiet (fail)
          go_wp2
          go_roundw
          case rel => exact ⟨k + 1, by omega, by go_num, HU, _, rfl⟩
          case measure => simp [intOf]; omega
        · have HS := sameB_ne H1 H2 he
          have hd : (x != y) = true := by simp [he]
          clear hu H1 H2 he
          go_wp2
          go_quiet (fail)
          go_wp2
          go_ret
          exact ⟨ret_bool HS.symm, _, drewN_two w _ _⟩
      · have hx := ha.1
        have hy := hb.1
        have HS := hu.done (by omega) (by omega)
        go_wp2
        go_ret
        exact ⟨ret_bool HS.symm, _, rfl⟩
  · have hx := ha.1
    have hy := hb.1
    have HS := sameB_len (show xs.length ≠ ys.length by omega)
    have hne : ((n : Int) != (m : Int)) = true := by simp; omega
    clear ha hb hx hy
    go_enter Try.func22, Try.ntmps22
    go_wp2
    go_ret
    exact ⟨ret_bool HS.symm, 0, rfl⟩


def BigEnd (n m : Nat) (w : World) (e : Ending) (w' : World) : Prop := ∃ r : Bool, e = .returned (.bool r) ∧ Hid (r = false → n ≤ 1048576 ∧ m ≤ 1048576) ∧ w' = w

set_option maxHeartbeats 400000 in
theorem big_any (a b : Option Addr) (n m ca cb : Nat) (w : World) (hn : n ≤ 9223372036854775807) (hm : m ≤ 9223372036854775807) :
    Calls Try.prog 8 #[.slice a n ca, .slice b m cb] w fun e w' => BigEnd n m w e w' := by
  by_cases h1 : 1048576 < n
  · go_enter Try.func8, Try.ntmps8
    go_wp2
    go_ret
    exact ⟨true, rfl, fun h => by simp at h, rfl⟩
  · have h1' : (n : Int) ≤ 1048576 := by omega
    by_cases h2 : (1048576 : Int) - (n : Int) < (m : Int)
    · go_enter Try.func8, Try.ntmps8
      go_wp2
      go_ret
      exact ⟨true, rfl, fun h => by simp at h, rfl⟩
    · go_enter Try.func8, Try.ntmps8
      go_wp2
      go_ret
      exact ⟨_, rfl, fun _ => by omega, rfl⟩

/-- Some slices read as some lists. -/
def Rs (v : World) (l : List (Option Addr × Nat × List Int)) : Prop := ∀ t ∈ l, Row v t.1 t.2.1 t.2.2

theorem Rs.nil (v : World) : Rs v [] := by intro t ht; simp at ht
theorem Rs.cons {v : World} {a : Option Addr} {n : Nat} {xs : List Int} {l : List (Option Addr × Nat × List Int)} (h : Row v a n xs) (hl : Rs v l) : Rs v ((a, n, xs) :: l) := by
  intro t ht
  rcases List.mem_cons.mp ht with rfl | ht
  · exact h
  · exact hl t ht
theorem Rs.below {v v' : World} {l : List (Option Addr × Nat × List Int)} (h : Rs v l) (hb : Below v.heap.size v v') : Rs v' l := fun t ht => (h t ht).below hb
theorem Rs.at {v : World} {l : List (Option Addr × Nat × List Int)} (h : Rs v l) (a : Option Addr) (n : Nat) (xs : List Int) (hm : (a, n, xs) ∈ l) : Row v a n xs := h _ hm


/-- How numberOf ends. -/
def NumEnd (w : World) (e : Ending) (w' : World) : Prop := ∃ z : Nat, e = .returned (.int .i64 (z : Int)) ∧ z < 1000003 ∧ w' = w

set_option maxHeartbeats 400000 in
theorem number_any (a : Option Addr) (n c : Nat) (bs : List Int) (w : World) (h : RowB w a n bs) (hn : n ≤ 1048576) :
    Calls Try.prog 23 #[.slice a n c] w fun e w' => NumEnd w e w' := by
  have HR := hide h
  clear h
  go_enter Try.func23, Try.ntmps23
  go_wp2_with fail
  go_loop [3, 8] (fun m i => ∃ k z : Nat, k ≤ n ∧ i = .int .i64 k ∧ m = .int .i64 (z : Int) ∧ z < 1000003) (fun _ i => n - (intOf i).toNat)
  case atStart => exact ⟨0, 0, Nat.zero_le _, rfl, rfl, by omega⟩
  case round =>
    obtain ⟨k, z, hk, rfl, rfl, hz⟩ := hrel
    by_cases hlt : k < n
    · have hi1 : (k : Int) < (n : Int) := by omega
      rcases HR.out.2.2 with h0 | ⟨b, off, rfl, hl, hc⟩
      · omega
      have hck := hc k hlt
      have hx := HR.out.2.1 k
      generalize bs.getD k 0 = x at hck hx
      clear hc HR
      have hz1 : (0 : Int) ≤ (z : Int) ∧ (z : Int) < 1000003 := by omega
      go_wp2_with fail
      go_round
      case rel => exact ⟨k + 1, ((31 * (z : Int) + x) % 1000003).toNat, by omega, by go_num, by have := Int.emod_nonneg (31 * (z : Int) + x) (show (1000003 : Int) ≠ 0 by omega); congr 1; omega, by have := Int.emod_lt_of_pos (31 * (z : Int) + x) (show (0 : Int) < 1000003 by omega); omega⟩
      case measure => simp [intOf]; omega
    · go_wp2_with fail
      go_ret
      exact ⟨z, rfl, hz, rfl⟩
end Go.Proofs.Ytegabkegbhglfaa


/- What a law over a drawn net and drawn lists keeps in mind. -/
namespace Go.Proofs.Ytegabkegbhglfaa
open Go.RowKit
set_option maxRecDepth 10000

structure Mst (w v : World) (V : Nat) (pl : Int) (a : Option Addr) (k c : Nat) (L : List (List Int)) (rows : List (Option Addr × Nat × List Int)) (ma : Option Addr) (mn : Nat) (cs : List Int) : Prop where
  old : Below w.heap.size w v
  var : v.heap[V]? = some (.cells #[.int .i64 pl, .slice a k c] 39 (0, 0))
  net : Lists v a (3 * k) L
  rows : Rs v rows
  more : RowB v ma mn cs

section
variable {w v v' : World} {V : Nat} {pl : Int} {a : Option Addr} {k c : Nat} {L : List (List Int)} {rows : List (Option Addr × Nat × List Int)} {ma : Option Addr} {mn : Nat} {cs : List Int}

theorem Mst.grow (h : Mst w v V pl a k c L rows ma mn cs) (hb : Below v.heap.size v v') : Mst w v' V pl a k c L rows ma mn cs :=
  ⟨h.old.trans (hb.mono h.old.size), (hb.block V (Array.getElem?_eq_some_iff.mp h.var).1).trans h.var, h.net.below hb, h.rows.below hb, h.more.below hb⟩
theorem Mst.add (h : Mst w v V pl a k c L rows ma mn cs) {b : Option Addr} {n : Nat} {xs : List Int} (hr : Row v b n xs) : Mst w v V pl a k c L ((b, n, xs) :: rows) ma mn cs := ⟨h.old, h.var, h.net, Rs.cons hr h.rows, h.more⟩
theorem Mst.c0 (h : Mst w v V pl a k c L rows ma mn cs) : v.cell? ⟨V, 0, none⟩ = some (.int .i64 pl) := cell_of_row v V 0 _ _ _ h.var
theorem Mst.c1 (h : Mst w v V pl a k c L rows ma mn cs) : v.cell? ⟨V, 1, none⟩ = some (.slice a k c) := cell_of_row v V 1 _ _ _ h.var
end
end Go.Proofs.Ytegabkegbhglfaa
