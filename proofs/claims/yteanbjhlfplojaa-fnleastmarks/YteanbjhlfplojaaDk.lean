/- DrawLeastMarks: some lists of at most eighteen numbers, for one to four places; nothing that was there is written. -/
import Derived.Test.YteanbjhlfplojaaDrw
import Derived.Test.YteanbjhlfplojaaLr
import Derived.Deep.AppendLies
import Derived.Maps.AppendAt
namespace Go.Proofs.Yteanbjhlfplojaa
open Go.RowKit
set_option maxRecDepth 10000

/-- A row of lists that append made, the lists from B on, none of them in the row's own block. -/
structure SsOwn (B : Nat) (v : World) (o : Value) (q : Nat) (cs : List Value) (X : List (List Int)) : Prop where
  own : v.ownsRow B 30 1 o q cs
  len : X.length = q
  cell : ∀ j, j < q → ∃ a n c, cs[j]? = some (.slice a n c) ∧ n ≤ 18 ∧ Row v a n (X.getD j []) ∧ (0 < n → ∀ x, a = some x → B ≤ x.block ∧ o.ownBlock ≠ some x.block)

theorem own_kept {B bc : Nat} {e : TypeId} {s : Nat} {w w' : World} {v : Value} {n : Nat} {l : List Value} (hown : w.ownsRow B e s v n l) (hk : Kept bc w.heap.size w w') (hb : bc < B) : w'.ownsRow B e s v n l := by
  refine ⟨hown.1, ?_⟩
  rcases hown.2 with h0 | ⟨g, cap, cur, e, h1, h2, h3⟩
  · exact .inl h0
  · exact .inr ⟨g, cap, cur, e, h1, (hk.block g (Array.getElem?_eq_some_iff.mp h2).1 (by omega)).trans h2, h3⟩

theorem SsOwn.kept {B bc : Nat} {v v' : World} {o : Value} {q : Nat} {cs : List Value} {X : List (List Int)} (h : SsOwn B v o q cs X) (hk : Kept bc v.heap.size v v') (hb : bc < B) : SsOwn B v' o q cs X := by
  refine ⟨own_kept h.own hk hb, h.len, fun j hj => ?_⟩
  obtain ⟨a, n, c, h1, h2, h3, h4⟩ := h.cell j hj
  exact ⟨a, n, c, h1, h2, h3.kept hk fun h0 x hx => by have := (h4 h0 x hx).1; omega, h4⟩

theorem Row.off {w w' : World} {a : Option Addr} {n : Nat} {xs : List Int} {row : Option Nat} (h : Row w a n xs) (hg : w.grownBy w' row) (hne : 0 < n → ∀ x, a = some x → row ≠ some x.block) : Row w' a n xs := by
  refine ⟨h.1, ?_⟩
  rcases h.2 with h0 | ⟨b, off, e, hl, hc⟩
  · exact .inl h0
  · refine .inr ⟨b, off, e, Nat.lt_of_lt_of_le hl hg.size, fun i hi => ?_⟩
    rw [World.cell?_of_block (hg.block b hl (fun e' => hne (by omega) _ e e'.symm))]
    exact hc i hi

theorem Row.lt {w : World} {a : Option Addr} {n : Nat} {xs : List Int} (h : Row w a n xs) (h0 : 0 < n) (x : Addr) (hx : a = some x) : x.block < w.heap.size := by
  rcases h.2 with h1 | ⟨b, off, e, hl, _⟩
  · omega
  · rw [e] at hx; obtain rfl := Option.some.inj hx; exact hl

theorem SsOwn.append {B : Nat} {v v' : World} {o : Value} {q g cap : Nat} {cs : List Value} {X : List (List Int)} {a : Option Addr} {n c : Nat} {x : List Int} (h : SsOwn B v o q cs X) (hr : Row v a n x) (hn : n ≤ 18) (hx : 0 < n → ∀ y, a = some y → B ≤ y.block ∧ o.ownBlock ≠ some y.block)
    (r1 : v'.ownsRow B 30 1 (.slice (some ⟨g, 0, none⟩) (q + 1) cap) (q + 1) (cs ++ [.slice a n c])) (r2 : v.grownBy v' o.ownBlock) (r3 : o.ownBlock = some g ∨ g = v.heap.size) : SsOwn B v' (.slice (some ⟨g, 0, none⟩) (q + 1) cap) (q + 1) (cs ++ [.slice a n c]) (X ++ [x]) := by
  have hcl : cs.length = q := by have := h.own.1; omega
  have hxl := h.len
  have key : ∀ (a : Option Addr) (n : Nat) (x : List Int), Row v a n x → (0 < n → ∀ y, a = some y → B ≤ y.block ∧ o.ownBlock ≠ some y.block) → Row v' a n x ∧ (0 < n → ∀ y, a = some y → B ≤ y.block ∧ Value.ownBlock (.slice (some ⟨g, 0, none⟩) (q + 1) cap) ≠ some y.block) := by
    intro a n x hr hx
    refine ⟨hr.off r2 fun h0 y hy => (hx h0 y hy).2, fun h0 y hy => ⟨(hx h0 y hy).1, ?_⟩⟩
    simp only [Value.ownBlock, ne_eq, Option.some.injEq]
    rcases r3 with e | e
    · intro e2
      exact (hx h0 y hy).2 (by rw [e, e2])
    · have := hr.lt h0 y hy
      omega
  refine ⟨r1, by simp [hxl], fun j hj => ?_⟩
  by_cases hjq : j < q
  · obtain ⟨a', n', c', h1, h2, h3, h4⟩ := h.cell j hjq
    obtain ⟨k1, k2⟩ := key a' n' _ h3 h4
    refine ⟨a', n', c', by rw [List.getElem?_append_left (by omega)]; exact h1, h2, ?_, k2⟩
    rw [List.getD_eq_getElem?_getD, List.getElem?_append_left (by omega), ← List.getD_eq_getElem?_getD]
    exact k1
  · obtain rfl : j = q := by omega
    obtain ⟨k1, k2⟩ := key a n _ hr hx
    refine ⟨a, n, c, by rw [List.getElem?_append_right (by omega)]; simp [hcl], hn, ?_, k2⟩
    rw [List.getD_eq_getElem?_getD, List.getElem?_append_right (by omega)]
    simpa [hxl] using k1

theorem SsOwn.lists {B : Nat} {v : World} {o : Value} {q : Nat} {cs : List Value} {X : List (List Int)} (h : SsOwn B v o q cs X) : ∃ a c, o = .slice a q c ∧ Lists v a q X ∧ ∀ x ∈ X, x.length ≤ 18 := by
  have hcl : cs.length = q := by have := h.own.1; omega
  have hxl := h.len
  have hle : ∀ x ∈ X, x.length ≤ 18 := fun x hx => by
    obtain ⟨j, hj, rfl⟩ := List.getElem_of_mem hx
    obtain ⟨a, n, c, h1, h2, h3, _⟩ := h.cell j (by omega)
    have := h3.1
    simp [hj] at this
    omega
  rcases h.own.2 with ⟨rfl, rfl⟩ | ⟨g, cap, cur, rfl, hb, hh, hnc, _, hsz, ht⟩
  · exact ⟨none, 0, rfl, ⟨h.len, .inl rfl⟩, hle⟩
  · refine ⟨_, cap, rfl, ⟨h.len, .inr ⟨g, 0, rfl, (Array.getElem?_eq_some_iff.mp hh).1, fun j hj => ?_⟩⟩, hle⟩
    obtain ⟨a, n, c, h1, h2, h3, _⟩ := h.cell j hj
    refine ⟨a, n, c, ?_, by unfold maxLen; omega, h3⟩
    rw [cell_of_row v g _ _ _ _ hh, Nat.zero_add, ← Array.getElem?_toList, ← h1, ← ht, List.getElem?_take_of_lt (by omega)]

theorem SsOwn.form {B : Nat} {v : World} {o : Value} {q : Nat} {cs : List Value} {X : List (List Int)} (h : SsOwn B v o q cs X) (hq : 0 < q) :
    ∃ g cap a n c, o = .slice (some ⟨g, 0, none⟩) q cap ∧ g < v.heap.size ∧ v.cell? ⟨g, 0, none⟩ = some (.slice a n c) ∧ n ≤ 18 ∧ Row v a n (X.getD 0 []) ∧ (0 < n → ∀ x, a = some x → B ≤ x.block ∧ o.ownBlock ≠ some x.block) := by
  rcases h.own.2 with ⟨rfl, rfl⟩ | ⟨g, cap, cur, rfl, hb, hh, hnc, _, hsz, ht⟩
  · omega
  · obtain ⟨a, n, c, h1, h2, h3, h4⟩ := h.cell 0 hq
    refine ⟨g, cap, a, n, c, rfl, (Array.getElem?_eq_some_iff.mp hh).1, ?_, h2, h3, h4⟩
    rw [cell_of_row v g _ _ _ _ hh, ← Array.getElem?_toList, ← h1, ← ht, List.getElem?_take_of_lt (by omega)]

/-- What is there while the lists are drawn. -/
structure DkSt (w v : World) (ca : Option Addr) (cn cc p : Nat) (bs : List Int) (o : Value) (q : Nat) (cs : List Value) (X : List (List Int)) : Prop where
  row : SsOwn (w.heap.size + 1) v o q cs X
  cur : Cur v w.heap.size ca cn cc p
  bytes : RowB v ca cn bs
  bel : Below w.heap.size w v

theorem DkSt.step {w v v' : World} {ca : Option Addr} {cn cc p p' : Nat} {bs : List Int} {o : Value} {q : Nat} {cs : List Value} {X : List (List Int)} (h : DkSt w v ca cn cc p bs o q cs X) (hk : Kept w.heap.size v.heap.size v v') (hc : Cur v' w.heap.size ca cn cc p') (hr : RowB v' ca cn bs) : DkSt w v' ca cn cc p' bs o q cs X :=
  ⟨h.row.kept hk (by omega), hc, hr, h.bel.trans ((hk.mono h.bel.size).below (Nat.le_refl _))⟩

theorem DkSt.only {w v v' : World} {ca : Option Addr} {cn cc p p' : Nat} {bs : List Int} {o : Value} {q : Nat} {cs : List Value} {X : List (List Int)} (h : DkSt w v ca cn cc p bs o q cs X) (ho : OnlyC w.heap.size v v') (hc : Cur v' w.heap.size ca cn cc p') (hap : Apart ca cn w.heap.size) : DkSt w v' ca cn cc p' bs o q cs X :=
  h.step (Kept.of_only ho) hc (h.bytes.keep ho hap)

theorem DkSt.alloc {w v : World} {ca : Option Addr} {cn cc p : Nat} {bs : List Int} {o : Value} {q : Nat} {cs : List Value} {X : List (List Int)} (h : DkSt w v ca cn cc p bs o q cs X) (ob : Obj) : DkSt w (v.alloc ob) ca cn cc p bs o q cs X := by
  have hb := (Below.refl v.heap.size v).alloc (Nat.le_refl _) ob
  exact h.step (Kept.of_below hb) (h.cur.below hb h.cur.lt) (h.bytes.below hb)

theorem DkSt.append {w v v' : World} {ca : Option Addr} {cn cc p : Nat} {bs : List Int} {o : Value} {q g cap : Nat} {cs : List Value} {X : List (List Int)} {a : Option Addr} {n c : Nat} {x : List Int} (h : DkSt w v ca cn cc p bs o q cs X) (hfar : 0 < cn → ∀ y, ca = some y → y.block < w.heap.size) (hr : Row v a n x) (hn : n ≤ 18) (hx : 0 < n → ∀ y, a = some y → w.heap.size + 1 ≤ y.block ∧ o.ownBlock ≠ some y.block)
    (r1 : v'.ownsRow (w.heap.size + 1) 30 1 (.slice (some ⟨g, 0, none⟩) (q + 1) cap) (q + 1) (cs ++ [.slice a n c])) (r2 : v.grownBy v' o.ownBlock) (r3 : o.ownBlock = some g ∨ g = v.heap.size) : DkSt w v' ca cn cc p bs (.slice (some ⟨g, 0, none⟩) (q + 1) cap) (q + 1) (cs ++ [.slice a n c]) (X ++ [x]) := by
  have hlo := h.cur.lt
  have hbl : Below (w.heap.size + 1) v v' := (Below.refl _ v).grown r2 (by omega) fun j hj => (h.row.own.lt j hj).1
  refine ⟨h.row.append hr hn hx r1 r2 r3, h.cur.below hbl (by omega), ⟨h.bytes.1, h.bytes.2.1, ?_⟩, h.bel.trans (hbl.mono (by omega))⟩
  rcases h.bytes.2.2 with h0 | ⟨b, off, e, hl, hc⟩
  · exact .inl h0
  · exact .inr ⟨b, off, e, Nat.lt_of_lt_of_le hl hbl.size, fun i hi => (World.cell?_of_block (hbl.block b (Nat.lt_succ_of_lt (hfar (by omega) _ e)))).trans (hc i hi)⟩

/-- How it ends. -/
def DkEnd (w : World) (e : Ending) (w' : World) : Prop :=
  ∃ (m : Nat) (a : Option Addr) (q c : Nat) (X : List (List Int)), e = .returned (.tuple #[.int .i64 (m : Int), .slice a q c]) ∧ 1 ≤ m ∧ m ≤ 4 ∧ q ≤ 8 ∧ Lists w' a q X ∧ (∀ x ∈ X, x.length ≤ 18) ∧ Below w.heap.size w w'

set_option maxHeartbeats 2000000 in
theorem drawLeast_any (ca : Option Addr) (cn cc : Nat) (bs : List Int) (w : World) (hr : RowB w ca cn bs) (hn : cn ≤ 1048576) :
    Calls Try.prog 6 #[.slice ca cn cc] w fun e w' => DkEnd w e w' := by
  have HB := hide ((Below.refl w.heap.size w).alloc (Nat.le_refl _) (.cells #[.slice ca cn cc, .int .i64 0, .int .u64 0] 43))
  have HR := hide (hr.below HB.out)
  have hap : Hid (Apart ca cn w.heap.size) := fun h0 y hy => by have := hr.far h0 y hy; omega
  have HF := hide (fun h0 y hy => hr.far h0 y hy)
  have HC : Hid (Cur (w.alloc (.cells #[.slice ca cn cc, .int .i64 0, .int .u64 0] 43)) w.heap.size ca cn cc 0) := ⟨0, heap_alloc_new _ _⟩
  obtain ⟨i0, hi, hz0, hz1, hz2⟩ := info_split Try.info30
  have HI := hide (And.intro hi (And.intro hz0 (And.intro hz1 hz2)))
  have S0 : Hid (DkSt w (w.alloc (.cells #[.slice ca cn cc, .int .i64 0, .int .u64 0] 43)) ca cn cc 0 bs (.slice none 0 0) 0 [] []) := ⟨⟨World.ownsRow_nil _ _ _ _, rfl, fun j hj => absurd hj (by omega)⟩, HC.out, HR.out, HB.out⟩
  clear hr hi hz0 hz1 hz2 HC HR HB
  go_enter Try.func6, Try.ntmps6
  go_wp2_with fail
  have hv0 : (w.alloc (.cells #[.slice ca cn cc, .int .i64 0, .int .u64 0] 43)).heap.size = w.heap.size + 1 := by simp
  generalize w.alloc (.cells #[.slice ca cn cc, .int .i64 0, .int .u64 0] 43) = v0 at *
  have S1 := hide (S0.out.alloc (.cells (cellsOf [1, 2, 2, 3, 4]) 3))
  refine (among_any 5 5 (some ⟨w.heap.size + 1, 0, none⟩) [1, 2, 2, 3, 4] w.heap.size ca cn cc 0 bs (v0.alloc (.cells (cellsOf [1, 2, 2, 3, 4]) 3)) S1.out.cur S1.out.bytes (by omega) hn (by omega) (by omega) (row_new v0 _ 5 _ rfl hv0.symm) (by intro _ x hx; obtain rfl := Option.some.inj hx; simp)).mono ?_
  rintro e v1 ⟨x, rfl, hx, hcur, ho⟩
  have S2 := hide (S1.out.only ho hcur hap.out)
  obtain ⟨m, rfl, hm1, hm4⟩ : ∃ m : Nat, x = (m : Int) ∧ 1 ≤ m ∧ m ≤ 4 := ⟨x.toNat, by simp at hx; omega, by simp at hx; omega, by simp at hx; omega⟩
  clear hcur ho S1 S0 hx hv0
  go_wp2_with fail
  refine (pick_any 7 w.heap.size ca cn cc (0 + 1) bs _ S2.out.cur S2.out.bytes (by omega) hn (by omega) (by omega)).mono ?_
  rintro e v2 ⟨r, rfl, hr7, hcur, ho⟩
  have S3 := hide (S2.out.only ho hcur hap.out)
  clear hcur ho S2
  go_wp2_with fail
  go_loopw [6, 7] (fun o kv wr => ∃ (k q p' : Nat) (cs : List Value) (X : List (List Int)), kv = .int .i64 (k : Int) ∧ k + q ≤ 6 ∧ p' ≤ 2 + 60 * q ∧ Hid (DkSt w wr ca cn cc p' bs o q cs X)) (fun _ kv _ => (intOf kv).toNat)
  case atStart => exact ⟨r, 0, _, _, _, rfl, by omega, by omega, S3⟩
  case round =>
    obtain ⟨k, q, p', cs, X, rfl, hkq, hp', st⟩ := hrel
    clear S3
    obtain ⟨hi, hz0, hz1, hz2⟩ := HI.out
    by_cases hk0 : 0 < k
    · have hki : (0 : Int) < (k : Int) := by omega
      have HM := hide (mark_drawW m w.heap.size ca cn cc p' bs wr st.out.cur st.out.bytes hap.out st.out.bytes.far (by omega) hn (by omega))
      go_wp2_with fail
      refine HM.out.mono ?_
      rintro e v3 ⟨a, n, c, xs, p2, rfl, hn18, hp2, hrow, hnew, hcur, hrb, hk⟩
      have hlo := st.out.cur.lt
      have hz3 := hk.size
      have HX : Hid (0 < n → ∀ y, a = some y → w.heap.size + 1 ≤ y.block ∧ u6.ownBlock ≠ some y.block) := fun h0 y hy => by
        have h1 := hnew h0 y hy
        refine ⟨by omega, fun e => ?_⟩
        have h2 := (st.out.row.own.lt _ e).2
        omega
      have S4 := hide (st.out.step hk hcur hrb)
      have S5 := hide (S4.out.alloc (.cells #[.slice a n c] 30))
      have HROW := hide hrow
      clear HM hk hcur hrb hnew st S4 hrow
      go_wp2_with (at_builtin; refine wpList_append_lies _ rfl (.tmp 20) (.tmp 24) 24 rfl (w.heap.size + 1) 30 i0 _ 1 24 Try.underlying24 hi hz0 hz1 hz2 rfl (by decide) u6 q _ rfl S5.out.row.own ⟨v3.heap.size, 0, none⟩ 1 1 [.slice a n c] rfl rfl (cell_one_new _ _ _) (by simp [Value.oneCell']) (by decide) (by unfold maxLen; omega) (by omega) (by simp; omega) (v3.heap.size + 1) (by simp) ?_; intro g' cp W' hown hgr hlies hglt; have S6 := hide (S5.out.append HF.out (HROW.out.below (below_al v3 _)) hn18 HX.out hown hgr (by simpa using hlies)); clear hown hgr hlies hglt)
      go_roundw
      case rel => exact ⟨k - 1, q + 1, p2, _, _, by go_num, by omega, by omega, S6⟩
      case measure => simp [intOf]; omega
    · obtain rfl : k = 0 := by omega
      by_cases hq0 : 0 < q
      rotate_left
      · obtain rfl : q = 0 := by omega
        obtain ⟨al, cl, rfl, hls, hle⟩ := st.out.row.lists
        have HE : Hid (DkEnd w (.returned (.tuple #[.int .i64 (m : Int), .slice al 0 cl])) wr) := ⟨m, al, 0, cl, X, rfl, hm1, hm4, by omega, hls, hle, st.out.bel⟩
        clear st hls hle
        go_wp2_with fail
        go_ret2
        exact HE.out
      · obtain ⟨g, cap, a, n, c, rfl, hg, hc0, hn18, hrow, hx⟩ := st.out.row.form hq0
        have hqi : (0 : Int) < (q : Int) := by omega
        have HO := hide (one_any 3 w.heap.size ca cn cc p' bs wr st.out.cur st.out.bytes (by omega) hn (by omega) (by omega))
        clear hc0 hn18 hrow hx hg
        go_wp2_with fail
        refine HO.out.mono ?_
        rintro e v3 ⟨b, rfl, hcur, ho⟩
        have S4 := hide (st.out.only ho hcur hap.out)
        clear hcur ho st HO
        cases b
        · obtain ⟨al, cl, e0, hls, hle⟩ := S4.out.row.lists
          simp only [Value.slice.injEq] at e0
          obtain ⟨rfl, _, rfl⟩ := e0
          have HE : Hid (DkEnd w (.returned (.tuple #[.int .i64 (m : Int), .slice (some ⟨g, 0, none⟩) q cap])) v3) := ⟨m, _, q, cap, X, rfl, hm1, hm4, by omega, hls, hle, S4.out.bel⟩
          clear S4 hls hle
          go_wp2_with fail
          go_ret2
          exact HE.out
        · obtain ⟨g2, cap2, a, n, c, e0, hg, hc0, hn18, hrow, hx⟩ := S4.out.row.form hq0
          simp only [Value.slice.injEq, Option.some.injEq, Addr.mk.injEq] at e0
          obtain ⟨⟨rfl, _⟩, _, rfl⟩ := e0
          have S5 := hide (S4.out.alloc (.cells #[.slice a n c] 30))
          have HROW := hide hrow
          have HX := hide hx
          have hlo := S4.out.cur.lt
          clear hrow hx S4
          go_wp2_with (at_builtin; refine wpList_append_lies _ rfl (.tmp 33) (.tmp 37) 24 rfl (w.heap.size + 1) 30 i0 _ 1 24 Try.underlying24 hi hz0 hz1 hz2 rfl (by decide) (.slice (some ⟨g, 0, none⟩) q cap) q _ rfl S5.out.row.own ⟨v3.heap.size, 0, none⟩ 1 1 [.slice a n c] rfl rfl (cell_one_new _ _ _) (by simp [Value.oneCell']) (by decide) (by unfold maxLen; omega) (by omega) (by simp; omega) (v3.heap.size + 1) (by simp) ?_; intro g' cp W' hown hgr hlies hglt; have S6 := hide (S5.out.append HF.out (HROW.out.below (below_al v3 _)) hn18 HX.out hown hgr (by simpa using hlies)); clear hown hgr hlies hglt)
          obtain ⟨al, cl, e0, hls, hle⟩ := S6.out.row.lists
          simp only [Value.slice.injEq] at e0
          obtain ⟨rfl, _, rfl⟩ := e0
          have HE : Hid (DkEnd w (.returned (.tuple #[.int .i64 (m : Int), .slice (some ⟨g', 0, none⟩) (q + 1) cp])) W') := ⟨m, _, q + 1, cp, _, rfl, hm1, hm4, by omega, hls, hle, S6.out.bel⟩
          clear S6 hls hle
          go_wp2_with fail
          go_ret2
          exact HE.out
end Go.Proofs.Yteanbjhlfplojaa
