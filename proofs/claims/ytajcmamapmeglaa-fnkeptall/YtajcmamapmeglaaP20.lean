/- Contracts that the proof stands on, one behind the other. -/
import Derived.Test.YtajcmamapmeglaaP19
/- The cursor's flow: a flow in new memory, whatever the bytes; nothing that was there is written but the cursor. -/
namespace Go.Proofs.Ytajcmamapmeglaa
open Go.RowKit
set_option maxRecDepth 10000

/-- How flow ends. -/
def FlowDr (bc : Nat) (ca : Option Addr) (cn cc p : Nat) (bs : List Int) (w : World) (e : Ending) (w' : World) : Prop :=
  ∃ (pl : Nat) (u : Value) (k : Nat) (cells : List Value) (s t : Int) (p' : Nat), e = .returned (.agg #[.int .i64 (pl : Int), u, .int .i64 s, .int .i64 t]) ∧ 2 ≤ pl ∧ pl ≤ 60 ∧ 2 ≤ k ∧ k ≤ 61 ∧ p' ≤ p + 40 ∧ NetW 21 w.heap.size w' u k cells ∧ Cur w' bc ca cn cc p' ∧ RowB w' ca cn bs ∧ Kept bc w.heap.size w w'

theorem set4R {v : World} {b : Nat} {x0 x1 x2 x3 : Value} {T : TypeId} (h : v.heap[b]? = some (.cells #[x0, x1, x2, x3] T (0, 0))) (y0 y1 y2 y3 : Value) :
    ((((v.setCell ⟨b, 0, none⟩ y0).setCell ⟨b, 1, none⟩ y1).setCell ⟨b, 2, none⟩ y2).setCell ⟨b, 3, none⟩ y3).heap[b]? = some (.cells #[y0, y1, y2, y3] T (0, 0)) := by
  have h1 := heap_setCell_same v b 0 _ _ y0 h
  have h2 := heap_setCell_same _ b 1 _ _ y1 h1
  have h3 := heap_setCell_same _ b 2 _ _ y2 h2
  rw [heap_setCell_same _ b 3 _ _ y3 h3]; rfl

theorem set4R_far {v : World} {b q : Nat} (hq : q ≠ b) (y0 y1 y2 y3 : Value) :
    ((((v.setCell ⟨b, 0, none⟩ y0).setCell ⟨b, 1, none⟩ y1).setCell ⟨b, 2, none⟩ y2).setCell ⟨b, 3, none⟩ y3).heap[q]? = v.heap[q]? := by
  rw [Below.heap_setCell _ _ _ _ hq, Below.heap_setCell _ _ _ _ hq, Below.heap_setCell _ _ _ _ hq, Below.heap_setCell _ _ _ _ hq]

/-- The flow is handed back. -/
theorem FlSt.done {M : Nat} {w v : World} {bc : Nat} {ca : Option Addr} {cn cc p p0 : Nat} {bs : List Int} {F pn : Nat} {u : Value} {k : Nat} {cells : List Value} {s t : Int} {Z : Obj} (hM : M ≤ 21) (h : FlSt M (w.alloc Z) v bc ca cn cc p bs F (pn : Int) u k cells s t) (hr : RowB w ca cn bs) (hbc : bc < w.heap.size) (hp1 : 2 ≤ pn) (hp2 : pn ≤ 60) (hk1 : 2 ≤ k) (hk2 : k ≤ 61) (hp : p ≤ p0 + 40) (y0 y1 y2 y3 : Value) :
    FlowDr bc ca cn cc p0 bs w (.returned (.agg #[.int .i64 (pn : Int), u, .int .i64 s, .int .i64 t])) ((((v.setCell ⟨w.heap.size, 0, none⟩ y0).setCell ⟨w.heap.size, 1, none⟩ y1).setCell ⟨w.heap.size, 2, none⟩ y2).setCell ⟨w.heap.size, 3, none⟩ y3) := by
  have hz : (w.alloc Z).heap.size = w.heap.size + 1 := by simp
  have far : ∀ q, q ≠ w.heap.size → ((((v.setCell ⟨w.heap.size, 0, none⟩ y0).setCell ⟨w.heap.size, 1, none⟩ y1).setCell ⟨w.heap.size, 2, none⟩ y2).setCell ⟨w.heap.size, 3, none⟩ y3).heap[q]? = v.heap[q]? := fun q hq => set4R_far hq _ _ _ _
  have hs : v.heap.size ≤ ((((v.setCell ⟨w.heap.size, 0, none⟩ y0).setCell ⟨w.heap.size, 1, none⟩ y1).setCell ⟨w.heap.size, 2, none⟩ y2).setCell ⟨w.heap.size, 3, none⟩ y3).heap.size := by simp [World.setCell]
  have hkp : Kept bc w.heap.size w ((((v.setCell ⟨w.heap.size, 0, none⟩ y0).setCell ⟨w.heap.size, 1, none⟩ y1).setCell ⟨w.heap.size, 2, none⟩ y2).setCell ⟨w.heap.size, 3, none⟩ y3) :=
    ((Kept.of_below (below_al w Z)).trans (h.kept.mono (by omega))).trans (Kept.of_below ((((((Below.refl _ v).setCell (p := ⟨w.heap.size, 0, none⟩) (Nat.le_refl _) y0).setCell (p := ⟨w.heap.size, 1, none⟩) (Nat.le_refl _) y1).setCell (p := ⟨w.heap.size, 2, none⟩) (Nat.le_refl _) y2).setCell (p := ⟨w.heap.size, 3, none⟩) (Nat.le_refl _) y3)))
  refine ⟨pn, u, k, cells, s, t, p, rfl, hp1, hp2, hk1, hk2, hp, ((h.net.moved hs fun q hq _ => far q (by omega)).low (by omega)).wide hM, ?_, hr.kept hkp h.apart, hkp⟩
  obtain ⟨q, hq⟩ := h.cur
  exact ⟨q, (far bc (by omega)).trans hq⟩

theorem cells4R {v : World} {b : Nat} {x0 x1 x2 x3 : Value} {T : TypeId} (h : v.heap[b]? = some (.cells #[x0, x1, x2, x3] T (0, 0))) :
    v.cell? ⟨b, 0, none⟩ = some x0 ∧ v.cell? ⟨b, 1, none⟩ = some x1 ∧ v.cell? ⟨b, 2, none⟩ = some x2 ∧ v.cell? ⟨b, 3, none⟩ = some x3 :=
  ⟨cell_of_row v b 0 _ _ _ h, cell_of_row v b 1 _ _ _ h, cell_of_row v b 2 _ _ _ h, cell_of_row v b 3 _ _ _ h⟩
theorem open4R {v : World} {b : Nat} {x0 x1 x2 x3 : Value} {T : TypeId} (h : v.heap[b]? = some (.cells #[x0, x1, x2, x3] T (0, 0))) :
    v.cell? ⟨b, 0, none⟩ = some x0 ∧ v.cell? ⟨b, 1, none⟩ = some x1 ∧ v.cell? ⟨b, 2, none⟩ = some x2 ∧ v.cell? ⟨b, 3, none⟩ = some x3 ∧ v.frozen? ⟨b, 0, none⟩ = false ∧ v.frozen? ⟨b, 1, none⟩ = false ∧ v.frozen? ⟨b, 2, none⟩ = false ∧ v.frozen? ⟨b, 3, none⟩ = false :=
  ⟨cell_of_row v b 0 _ _ _ h, cell_of_row v b 1 _ _ _ h, cell_of_row v b 2 _ _ _ h, cell_of_row v b 3 _ _ _ h, frozen_of_row v b 0 _ _ h, frozen_of_row v b 1 _ _ h, frozen_of_row v b 2 _ _ h, frozen_of_row v b 3 _ _ h⟩
theorem row_am (v : World) : Row (v.alloc (.cells #[.int .i64 0, .int .i64 (-1), .int .i64 2, .int .i64 17] 3)) (some ⟨v.heap.size, 0, none⟩) 4 [0, -1, 2, 17] := Blk.row (b := v.heap.size) ⟨rfl, .inr ⟨rfl, heap_alloc_new v _⟩⟩

theorem put_list {B : Nat} {w : World} {a : Option Addr} {n c : Nat} {xs : List Int} (x : Int) (h : NewL B w a n c xs) (hn : n ≤ 20) (hB : B ≤ w.heap.size) :
    Calls Try.prog 144 #[.slice a n c, .int .i64 x] w fun e w' => ∃ g n' c' ys, e = .returned (.slice (some ⟨g, 0, none⟩) n' c') ∧ n' ≤ n + 1 ∧ NewL B w' (some ⟨g, 0, none⟩) n' c' ys ∧ (a = some ⟨g, 0, none⟩ ∨ w.heap.size ≤ g) ∧ Below w.heap.size w w' := by
  rcases h with ⟨rfl, rfl, rfl, rfl⟩ | ⟨b, rfl, hb, h1, h2, h3, hr⟩
  · refine (put_nil x w).mono ?_
    rintro e w' ⟨g, n', c', ys, rfl, m1, m2, m3, m4, m5, m6, m7⟩
    exact ⟨g, n', c', ys, rfl, by omega, .inr ⟨g, rfl, by omega, m1, m3, m4, m5⟩, .inr (by omega), m7⟩
  · refine (put_some b n c xs x w hr (by omega) h1 h2 h3).mono ?_
    rintro e w' ⟨g, n', c', ys, rfl, m1, m2, m3, m4, m5, m6, m7⟩
    refine ⟨g, n', c', ys, rfl, by omega, .inr ⟨g, rfl, by omega, m1, m3, m4, m5⟩, ?_, m7⟩
    rcases m6 with rfl | m6
    · exact .inl rfl
    · exact .inr m6

/-- What is yielded where a list of a transition is put into. -/
def putG (B g F iL : Nat) (i : Nat) (v : Value) (w : World) : Prop :=
  if i = iL then ∃ a n c xs, v = .slice a n c ∧ n ≤ 20 ∧ NewL B w a n c xs ∧ ∀ o, a = some o → o.block ≠ g ∧ o.block ≠ F else ∃ r : Nat, v = .int .i64 (r : Int)

theorem putG_mono {B g F iL bc : Nat} (hb : bc < B) (i : Nat) (v : Value) (w w' : World) (h : putG B g F iL i v w) (hk : Kept bc w.heap.size w w') : putG B g F iL i v w' := by
  unfold putG at *
  split at h
  · rename_i hi
    rw [if_pos hi]
    obtain ⟨a, n, c, xs, e, hn, hl, hf⟩ := h
    exact ⟨a, n, c, xs, e, hn, hl.kept hk (Nat.le_refl _) hb, hf⟩
  · rename_i hi
    rw [if_neg hi]
    exact h

/-- What is yielded where a transition is appended. -/
def addG (B : Nat) (u : Value) (i : Nat) (v : Value) (w : World) : Prop :=
  match i with
  | 2 => v = u
  | 7 => ∃ r : Nat, v = .int .i64 (r : Int)
  | 13 => ∃ r : Nat, v = .int .i64 (r : Int)
  | 8 => ∃ a xs, v = .slice a 1 1 ∧ NewL B w a 1 1 xs
  | 14 => ∃ a xs, v = .slice a 1 1 ∧ NewL B w a 1 1 xs
  | 15 => ∃ a b xs ys, v = .agg #[.slice a 1 1, .slice b 1 1, .slice none 0 0] ∧ NewL B w a 1 1 xs ∧ NewL B w b 1 1 ys
  | 16 => ∃ g a b xs ys, v = .slice (some ⟨g, 0, none⟩) 1 1 ∧ B ≤ g ∧ w.heap[g]? = some (.cells #[.slice a 1 1, .slice b 1 1, .slice none 0 0] 106 (0, 0)) ∧ NewL B w a 1 1 xs ∧ NewL B w b 1 1 ys
  | _ => True

theorem addG_mono {B bc : Nat} {u : Value} (hb : bc < B) (i : Nat) (v : Value) (w w' : World) (h : addG B u i v w) (hk : Kept bc w.heap.size w w') : addG B u i v w' := by
  unfold addG at *
  split at h
  · exact h
  · exact h
  · exact h
  · obtain ⟨a, xs, e, h1⟩ := h; exact ⟨a, xs, e, h1.kept hk (Nat.le_refl _) hb⟩
  · obtain ⟨a, xs, e, h1⟩ := h; exact ⟨a, xs, e, h1.kept hk (Nat.le_refl _) hb⟩
  · obtain ⟨a, b, xs, ys, e, h1, h2⟩ := h; exact ⟨a, b, xs, ys, e, h1.kept hk (Nat.le_refl _) hb, h2.kept hk (Nat.le_refl _) hb⟩
  · obtain ⟨g, a, b, xs, ys, e, hg, hh, h1, h2⟩ := h
    exact ⟨g, a, b, xs, ys, e, hg, (hk.block g (Array.getElem?_eq_some_iff.mp hh).1 (by omega)).trans hh, h1.kept hk (Nat.le_refl _) hb, h2.kept hk (Nat.le_refl _) hb⟩
  · trivial

section
variable {M : Nat} {W v X : World} {bc : Nat} {ca : Option Addr} {cn cc p : Nat} {bs : List Int} {F : Nat} {pl : Int} {u : Value} {k : Nat} {cells : List Value} {s t : Int}

theorem FlSt.row {g cp : Nat} (h : FlSt M W v bc ca cn cc p bs F pl (.slice (some ⟨g, 0, none⟩) k cp) k cells s t) : ∃ C, v.heap[g]? = some (.cells C 106 (0, 0)) ∧ 3 * k ≤ C.size := by
  rcases h.net.own.2 with ⟨e1, _⟩ | ⟨g', cp', cur, e1, hg, hh, r1, r2, r3, r4⟩
  · simp at e1
  · obtain ⟨rfl, rfl⟩ : g = g' ∧ cp = cp' := by simpa using e1
    exact ⟨cur, hh, by omega⟩

/-- Transitions are appended whose lists were made before. -/
theorem FlSt.append2 {m g cp : Nat} {news : List Value} (h : FlSt M W v bc ca cn cc p bs F pl u k cells s t)
    (hnew : ∀ j, j < 3 * m → ∃ a n c xs, news[j]? = some (.slice a n c) ∧ n ≤ M ∧ NewL W.heap.size v a n c xs ∧ ∀ o, a = some o → u.ownBlock ≠ some o.block ∧ o.block ≠ F)
    (hown : X.ownsRow W.heap.size 106 3 (.slice (some ⟨g, 0, none⟩) (k + m) cp) (k + m) (cells ++ news)) (hgr : v.grownBy X u.ownBlock) (hl : u.ownBlock = some g ∨ g = v.heap.size) :
    FlSt M W (X.setCell ⟨F, 1, none⟩ (.slice (some ⟨g, 0, none⟩) (k + m) cp)) bc ca cn cc p bs F pl (.slice (some ⟨g, 0, none⟩) (k + m) cp) (k + m) (cells ++ news) s t := by
  have hFl := h.lt
  have hF := h.hF
  have hb := h.hc
  have hkz := h.kept.size
  have hob : ∀ q, u.ownBlock = some q → W.heap.size ≤ q ∧ q < v.heap.size := h.net.own.lt
  have hcl : cells.length = 3 * k := by have := h.net.own.1; omega
  have hgF : g ≠ F := fun e => by
    rcases hl with hl | hl
    · exact h.farU (by rw [hl, e])
    · omega
  have N := h.net.append (m := m) (fun j hj => by
    obtain ⟨a, n, c, xs, e, hn, hl, hf⟩ := hnew j hj
    exact ⟨a, n, c, xs, e, hn, hl, fun o ho => (hf o ho).1⟩) hown hgr hl
  have fU : (Value.slice (some ⟨g, 0, none⟩) (k + m) cp).ownBlock ≠ some F := fun e => hgF (by simpa [Value.ownBlock] using e)
  have fL : ∀ j a n c, j < 3 * (k + m) → (cells ++ news)[j]? = some (.slice a n c) → ∀ o, a = some o → o.block ≠ F := by
    intro j a n c hj hc o ho e
    by_cases hjk : j < 3 * k
    · rw [List.getElem?_append_left (by omega)] at hc
      exact h.farL j a n c hjk hc o ho e
    · rw [List.getElem?_append_right (by omega), hcl] at hc
      obtain ⟨a', n', c', xs, e', _, hl', hf⟩ := hnew (j - 3 * k) (by omega)
      rw [hc] at e'
      obtain ⟨rfl, rfl, rfl⟩ : a = a' ∧ n = n' ∧ c = c' := by simpa using e'
      exact (hf o ho).2 e
  have hset : ∀ q, q ≠ F → (X.setCell ⟨F, 1, none⟩ (.slice (some ⟨g, 0, none⟩) (k + m) cp)).heap[q]? = X.heap[q]? := fun q hq => Below.heap_setCell _ _ _ _ hq
  have hWs : X.heap.size ≤ (X.setCell ⟨F, 1, none⟩ (.slice (some ⟨g, 0, none⟩) (k + m) cp)).heap.size := by simp [World.setCell]
  have oldF : X.heap[F]? = v.heap[F]? := hgr.block F hFl fun e => h.farU e.symm
  have oldc : X.heap[bc]? = v.heap[bc]? := hgr.block bc (by omega) fun e => by have := hob bc e.symm; omega
  have hBel : Below W.heap.size v (X.setCell ⟨F, 1, none⟩ (.slice (some ⟨g, 0, none⟩) (k + m) cp)) := by
    refine Below.setCell (p := ⟨F, 1, none⟩) ?_ hF _
    exact (Below.refl W.heap.size v).grown hgr hkz fun q hq => (hob q hq).1
  refine ⟨?_, hF, hb, N.farF fU fL hWs hset, fU, fL, ?_, h.was, h.apart, h.kept.trans (Kept.of_below hBel)⟩
  · rw [heap_setCell_same X F 1 _ _ _ (oldF.trans h.var)]; rfl
  · obtain ⟨q, hq⟩ := h.cur
    exact ⟨q, (hset bc (by omega)).trans (oldc.trans hq)⟩
end

theorem news3W {B : Nat} {v : World} (u : Value) (F : Nat) {a b : Option Addr} {xs ys : List Int} {W : World} {n : Nat} (h0 : NewL B v a 1 1 xs) (h1 : NewL B v b 1 1 ys) (hn : n ≤ B) (hW : W.heap.size ≤ B) (hu : ∀ q, u.ownBlock = some q → q < n) (hF : F < n) :
    ∀ j, j < 3 * 1 → ∃ a' n' c xs, ([.slice a 1 1, .slice b 1 1, .slice none 0 0] : List Value)[j]? = some (.slice a' n' c) ∧ n' ≤ 20 ∧ NewL W.heap.size v a' n' c xs ∧ ∀ o, a' = some o → u.ownBlock ≠ some o.block ∧ o.block ≠ F := by
  have far : ∀ {a : Option Addr} {n c : Nat} {xs : List Int}, NewL B v a n c xs → ∀ o, a = some o → u.ownBlock ≠ some o.block ∧ o.block ≠ F := fun h o ho => by
    have h1 := (h.lt ho).1
    exact ⟨fun e => by have := hu _ e; omega, by omega⟩
  intro j hj
  obtain h | h | h : j = 0 ∨ j = 1 ∨ j = 2 := by omega
  all_goals subst h
  · exact ⟨_, _, _, _, rfl, by decide, h0.mono hW, far h0⟩
  · exact ⟨_, _, _, _, rfl, by decide, h1.mono hW, far h1⟩
  · exact ⟨_, _, _, _, rfl, by decide, newNil _ _, fun o ho => by cases ho⟩

set_option maxHeartbeats 3000000 in
theorem flow_draw (rs : Bool) (bc : Nat) (ca : Option Addr) (cn cc p : Nat) (bs : List Int) (w : World) (h : Cur w bc ca cn cc p) (hr : RowB w ca cn bs) (hap : Apart ca cn bc) (hp : p ≤ 800000) (hn : cn ≤ 1048576) :
    Calls Try.prog 112 #[.pointer (some ⟨bc, 0, none⟩), .bool rs] w fun e w' => FlowDr bc ca cn cc p bs w e w' := by
  have hbc := h.lt
  have hA := below_al w (.cells #[.int .i64 0, .slice none 0 0, .int .i64 0, .int .i64 0] 121)
  have hB := below_al (w.alloc (.cells #[.int .i64 0, .slice none 0 0, .int .i64 0, .int .i64 0] 121)) (.cells #[.int .i64 2, .slice none 0 0] 26)
  have HR0 := hide hr
  have HRES := hide (heap_alloc_new w (.cells #[.int .i64 0, .slice none 0 0, .int .i64 0, .int .i64 0] 121))
  have y1 : (w.alloc (.cells #[.int .i64 0, .slice none 0 0, .int .i64 0, .int .i64 0] 121)).heap.size = w.heap.size + 1 := by simp
  have H0 := hide (GrSt.mk (W := w.alloc (.cells #[.int .i64 0, .slice none 0 0, .int .i64 0, .int .i64 0] 121)) (heap_alloc_new (w.alloc (.cells #[.int .i64 0, .slice none 0 0, .int .i64 0, .int .i64 0] 121)) (.cells #[.int .i64 2, .slice none 0 0] 26)) (Nat.le_refl _) (by omega) (NetW.nil _ _) ((h.below hA hbc).below hB (by omega)) (hr.kept (Kept.of_below hA) hap) hap (Kept.of_below hB))
  obtain ⟨i1, hi1, hz0, hz1, hz2⟩ := info_split Try.info106
  clear h hr hA hB hap
  rw [y1] at H0
  go_enter Try.func112, Try.ntmps112
  go_wp2_with fail
  refine (pick_any 3 bc ca cn cc p bs _ H0.out.cur H0.out.bytes (by omega) hn (by omega) (by omega)).mono ?_
  rintro e v1 ⟨r, rfl, hrr, hcur, ho⟩
  have H1 := hide (H0.out.go (Kept.of_only ho) hcur)
  clear H0 hcur ho
  have e1 : (1 : Int) + (r : Int) = ((r + 1 : Nat) : Int) := by omega
  have hg3 : grT (r + 1) ≤ 22 ∧ grP (r + 1) ≤ 28 ∧ grC (r + 1) ≤ 7 := by
    obtain h | h | h : r = 0 ∨ r = 1 ∨ r = 2 := by omega
    all_goals (subst h; decide)
  have HGR := hide (grow_draw (W := w.alloc (.cells #[.int .i64 0, .slice none 0 0, .int .i64 0, .int .i64 0] 121)) (bc := bc) (ca := ca) (cc := cc) (bs := bs) (V := w.heap.size + 1) hn (r + 1) (by omega) 0 1 v1 (p + 1) 2 (.slice none 0 0) 0 [] H1.out (by omega) (by omega) (by omega) (by omega))
  rw [if_neg (by omega)] at HGR
  rw [← e1] at HGR
  clear e1
  go_wp2_with fail
  refine HGR.out.mono ?_
  rintro e v2 ⟨p2, pl, u, k, cells, rfl, H2, b1, b2, b3, b4, b5, b6⟩
  clear HGR H1
  obtain ⟨pn, rfl⟩ : ∃ pn : Nat, pl = (pn : Int) := Int.eq_ofNat_of_zero_le (by omega)
  obtain ⟨g, cp, rfl, hgB, hgl⟩ := World.ownsRow.form H2.out.net.own (by omega)
  have HF := hide (H2.out.flow 0 1)
  have hc0 := H2.out.c0
  have hc1 := H2.out.c1
  have hVl := H2.out.lt
  generalize hFe : v2.heap.size = F at *
  go_wp2_with fail
  generalize v2.alloc (.cells #[.int .i64 (pn : Int), .slice (some ⟨g, 0, none⟩) k cp, .int .i64 0, .int .i64 1] 121) = v3 at *
  clear H2 hc0 hc1 hVl hFe
  refine (pick_any k bc ca cn cc p2 bs _ HF.out.cur HF.out.bytes (by omega) hn (by omega) (by omega)).mono ?_
  rintro e v4 ⟨kk, rfl, hkk, hcur, ho⟩
  have H4 := hide (HF.out.go (Kept.of_only ho) hcur)
  clear HF hcur ho
  go_wp2_with fail
  refine (pick_any 9 bc ca cn cc (p2 + 1) bs _ H4.out.cur H4.out.bytes (by omega) hn (by omega) (by omega)).mono ?_
  rintro e v5 ⟨sw, rfl, hsw, hcur, ho⟩
  have H5 := hide (H4.out.go (Kept.of_only ho) hcur)
  clear H4 hcur ho
  have hFR5 := H5.out.lt
  obtain ⟨q0, q1, q2, q3⟩ := H5.out.cells4
  have hkI : (kk : Int) < (k : Int) := by omega
  have hk0 : (0 : Int) ≤ (kk : Int) := by omega
  have hWz : (w.alloc (.cells #[.int .i64 0, .slice none 0 0, .int .i64 0, .int .i64 0] 121)).heap.size = w.heap.size + 1 := y1
  by_cases s0 : sw = 0
  · subst s0
    go_upto_region 7 with fail
    refine wp_region_held_drew (S := fun W => W.cell? ⟨F, 0, none⟩ = some (.int .i64 (pn : Int))) (by kernel_rfl) q0 (fun hHeld => ?_)
    refine take_yes (i := 0) (some 26) (.pointer (some ⟨F, 0, none⟩)) rfl rfl (by kernel_rfl) (by kernel_rfl) (by kernel_rfl) (fun _ _ _ h => h) (by rfl) (fun W' hSw => by go_simp) (by assumption) ?_
    simp only [Act.put, List.setIfInBounds_toArray, List.set_cons_zero, List.set_cons_succ]
    refine take_yes (i := 1) (some 27) (.pointer (some ⟨F, 1, none⟩)) rfl rfl (by kernel_rfl) (by kernel_rfl) (by kernel_rfl) (fun _ _ _ h => h) (by rfl) (fun W' hSw => by go_simp) (by assumption) ?_
    simp only [Act.put, List.setIfInBounds_toArray, List.set_cons_zero, List.set_cons_succ]
    refine take_yes (i := 3) (some 29) (.pointer (some ⟨bc, 0, none⟩)) rfl rfl (by kernel_rfl) (by kernel_rfl) (by kernel_rfl) (fun _ _ _ h => h) (by rfl) (fun W' hSw => by go_simp) (by assumption) ?_
    simp only [Act.put, List.setIfInBounds_toArray, List.set_cons_zero, List.set_cons_succ]
    refine take_yes (i := 4) (some 30) (.pointer (some ⟨F, 0, none⟩)) rfl rfl (by kernel_rfl) (by kernel_rfl) (by kernel_rfl) (fun _ _ _ h => h) (by rfl) (fun W' hSw => by go_simp) (by assumption) ?_
    simp only [Act.put, List.setIfInBounds_toArray, List.set_cons_zero, List.set_cons_succ]
    refine take_yes (i := 5) (some 31) (.pointer (some ⟨F, 0, none⟩)) rfl rfl (by kernel_rfl) (by kernel_rfl) (by kernel_rfl) (fun _ _ _ h => h) (by rfl) (fun W' hSw => by go_simp) (by assumption) ?_
    simp only [Act.put, List.setIfInBounds_toArray, List.set_cons_zero, List.set_cons_succ]
    refine take_yes (i := 6) (some 32) (.int .i64 (pn : Int)) rfl rfl (by kernel_rfl) (by kernel_rfl) (by kernel_rfl) (fun _ _ _ h => h) (by rfl) (fun W' hSw => by go_simp) (by assumption) ?_
    simp only [Act.put, List.setIfInBounds_toArray, List.set_cons_zero, List.set_cons_succ]
    refine take_yes (i := 9) (some 35) (.pointer (some ⟨bc, 0, none⟩)) rfl rfl (by kernel_rfl) (by kernel_rfl) (by kernel_rfl) (fun _ _ _ h => h) (by rfl) (fun W' hSw => by go_simp) (by assumption) ?_
    simp only [Act.put, List.setIfInBounds_toArray, List.set_cons_zero, List.set_cons_succ]
    refine take_yes (i := 10) (some 36) (.pointer (some ⟨F, 0, none⟩)) rfl rfl (by kernel_rfl) (by kernel_rfl) (by kernel_rfl) (fun _ _ _ h => h) (by rfl) (fun W' hSw => by go_simp) (by assumption) ?_
    simp only [Act.put, List.setIfInBounds_toArray, List.set_cons_zero, List.set_cons_succ]
    refine take_yes (i := 11) (some 37) (.pointer (some ⟨F, 0, none⟩)) rfl rfl (by kernel_rfl) (by kernel_rfl) (by kernel_rfl) (fun _ _ _ h => h) (by rfl) (fun W' hSw => by go_simp) (by assumption) ?_
    simp only [Act.put, List.setIfInBounds_toArray, List.set_cons_zero, List.set_cons_succ]
    refine take_yes (i := 12) (some 38) (.int .i64 (pn : Int)) rfl rfl (by kernel_rfl) (by kernel_rfl) (by kernel_rfl) (fun _ _ _ h => h) (by rfl) (fun W' hSw => by go_simp) (by assumption) ?_
    simp only [Act.put, List.setIfInBounds_toArray, List.set_cons_zero, List.set_cons_succ]
    refine any_go [2, 7, 8, 13, 14, 15, 16] (fun i => i + 26) (fun i => if i = 8 then [7] else if i = 13 then [7] else if i = 14 then [13] else if i = 15 then [8, 14] else if i = 16 then [15] else []) (fun x y => Kept bc x.heap.size x y) (fun P W' => ∃ q, q ≤ p2 + 2 + (if P 7 then 1 else 0) + (if P 13 then 1 else 0) ∧ v5.heap.size ≤ W'.heap.size ∧ FlSt 20 (w.alloc (.cells #[.int .i64 0, .slice none 0 0, .int .i64 0, .int .i64 0] 121)) W' bc ca cn cc q bs F (pn : Int) (.slice (some ⟨g, 0, none⟩) k cp) k cells 0 1) (addG v5.heap.size (.slice (some ⟨g, 0, none⟩) k cp)) (fuel := 4) (addG_mono (by omega)) (by decide) (fun i _ j _ h => by simpa using h) (by kernel_rfl) (by decide) (by kernel_rfl) (by kernel_rfl) (fun _ _ h => by obtain ⟨q, _, _, hh⟩ := h; exact hh.cells4.1) ?_ ⟨p2 + 2, by simp, Nat.le_refl _, H5.out.grow (Below.refl _ v5).drew⟩ ?_
    · rintro i hi P a z w' o ho hP hoth hdeps ⟨q, hq, hz, hS⟩ K hK
      simp only [List.mem_cons, List.not_mem_nil, or_false] at hi
      rcases hi with rfl | rfl | rfl | rfl | rfl | rfl | rfl
      all_goals obtain rfl := Option.some.inj ho
      · have e1 := evalD (v := .pointer (some ⟨F, 1, none⟩)) ((hoth 27 (by decide)).trans rfl)
        have hcl := hS.cells4.2.1
        exact oper_val rfl (v := .slice (some ⟨g, 0, none⟩) k cp) (w' := w') (by go_simp) (hK _ _ rfl (Kept.refl _ _ _) ⟨q, by simpa [upB] using hq, hz, hS⟩)
      · have e1 : a.eval (.tmp 29) = .pointer (some ⟨bc, 0, none⟩) := (hoth 29 (by decide)).trans rfl
        have e2 : a.eval (.tmp 32) = .int .i64 (pn : Int) := (hoth 32 (by decide)).trans rfl
        rw [hP] at hq
        have hq2 : q ≤ p2 + 3 := by (revert hq; cases P 13 <;> simp <;> omega)
        have hq3 : q ≤ p2 + 2 + (if P 13 then 1 else 0) := by simpa using hq
        refine oper_call rfl 71 _ _ _ rfl Try.func71 (by decide) rfl #[.pointer (some ⟨bc, 0, none⟩), .int .i64 (pn : Int)] (mapw2 _ _ _ _ _ e1 e2) _ (pick_any pn bc ca cn cc q bs w' hS.cur hS.bytes (by omega) hn (by omega) (by omega)) ?_
        rintro e w'' ⟨r, rfl, _, hcur, ho⟩
        exact ⟨_, rfl, hK _ _ ⟨r, rfl⟩ (Kept.of_only ho) ⟨q + 1, by simp [upB]; omega, by have := ho.size; omega, hS.go (Kept.of_only ho) hcur⟩⟩
      · obtain ⟨_, e1, r, ez⟩ := hdeps 7 (by decide)
        have e1' : a.tmps[33]?.getD undef = .int .i64 (r : Int) := evalD (e1.trans ez)
        have hA := below_al w' (.cells #[.int .i64 (r : Int)] 3)
        exact oper_val rfl (v := .slice (some ⟨w'.heap.size, 0, none⟩) 1 1) (w' := w'.alloc (.cells #[.int .i64 (r : Int)] 3)) (by go_simp) (hK _ _ ⟨_, _, rfl, (newL1 w' (r : Int)).mono hz⟩ (Kept.of_below hA) ⟨q, by simpa [upB] using hq, by have := hA.size; omega, hS.grow hA⟩)
      · have e1 : a.eval (.tmp 35) = .pointer (some ⟨bc, 0, none⟩) := (hoth 35 (by decide)).trans rfl
        have e2 : a.eval (.tmp 38) = .int .i64 (pn : Int) := (hoth 38 (by decide)).trans rfl
        have h7 := (hdeps 7 (by decide)).1
        rw [hP, h7] at hq
        simp at hq
        refine oper_call rfl 71 _ _ _ rfl Try.func71 (by decide) rfl #[.pointer (some ⟨bc, 0, none⟩), .int .i64 (pn : Int)] (mapw2 _ _ _ _ _ e1 e2) _ (pick_any pn bc ca cn cc q bs w' hS.cur hS.bytes (by omega) hn (by omega) (by omega)) ?_
        rintro e w'' ⟨r, rfl, _, hcur, ho⟩
        exact ⟨_, rfl, hK _ _ ⟨r, rfl⟩ (Kept.of_only ho) ⟨q + 1, by simp [upB, h7]; omega, by have := ho.size; omega, hS.go (Kept.of_only ho) hcur⟩⟩
      · obtain ⟨_, e1, r, ez⟩ := hdeps 13 (by decide)
        have e1' : a.tmps[39]?.getD undef = .int .i64 (r : Int) := evalD (e1.trans ez)
        have hA := below_al w' (.cells #[.int .i64 (r : Int)] 3)
        exact oper_val rfl (v := .slice (some ⟨w'.heap.size, 0, none⟩) 1 1) (w' := w'.alloc (.cells #[.int .i64 (r : Int)] 3)) (by go_simp) (hK _ _ ⟨_, _, rfl, (newL1 w' (r : Int)).mono hz⟩ (Kept.of_below hA) ⟨q, by simpa [upB] using hq, by have := hA.size; omega, hS.grow hA⟩)
      · obtain ⟨_, e1, a8, xs8, ez1, l1⟩ := hdeps 8 (by decide)
        obtain ⟨_, e2, a14, xs14, ez2, l2⟩ := hdeps 14 (by decide)
        have e1' : a.tmps[34]?.getD undef = .slice a8 1 1 := evalD (e1.trans ez1)
        have e2' : a.tmps[40]?.getD undef = .slice a14 1 1 := evalD (e2.trans ez2)
        exact oper_val rfl (v := .agg #[.slice a8 1 1, .slice a14 1 1, .slice none 0 0]) (w' := w') (by go_simp) (hK _ _ ⟨_, _, _, _, rfl, l1, l2⟩ (Kept.refl _ _ _) ⟨q, by simpa [upB] using hq, hz, hS⟩)
      · obtain ⟨_, e1, a8, a14, xs8, xs14, ez1, l1, l2⟩ := hdeps 15 (by decide)
        have e1' : a.tmps[41]?.getD undef = .agg #[.slice a8 1 1, .slice a14 1 1, .slice none 0 0] := evalD (e1.trans ez1)
        have hA := below_al w' (.cells #[.slice a8 1 1, .slice a14 1 1, .slice none 0 0] 106)
        exact oper_val rfl (v := .slice (some ⟨w'.heap.size, 0, none⟩) 1 1) (w' := w'.alloc (.cells #[.slice a8 1 1, .slice a14 1 1, .slice none 0 0] 106)) (by go_simp) (hK _ _ ⟨_, _, _, _, _, rfl, hz, heap_alloc_new _ _, l1.grown hA, l2.grown hA⟩ (Kept.of_below hA) ⟨q, by simpa [upB] using hq, by have := hA.size; omega, hS.grow hA⟩)
    · rintro z w6 ⟨q, hq, hz6, H6⟩ hG
      have hq' : q ≤ p2 + 4 := by simpa using hq
      have e2 : z 2 = .slice (some ⟨g, 0, none⟩) k cp := hG 2 (by decide)
      obtain ⟨b0, a8, a14, xs8, xs14, e16, hb0, hrow, l8, l14⟩ := hG 16 (by decide)
      clear hG hq
      simp only [frmD, lstD, if_true, Act.put, List.setIfInBounds_toArray, List.set_cons_zero, List.set_cons_succ, e2, e16]
      have HNW := hide (World.news_of_block hrow)
      have hg5 : g < v5.heap.size := (H5.out.net.own.lt g rfl).2
      have hkz := H5.out.kept.size
      have hk6 := H6.kept.size
      have HNL := hide (news3W (.slice (some ⟨g, 0, none⟩) k cp) F l8 l14 (show v5.heap.size ≤ v5.heap.size from Nat.le_refl _) hkz (fun q hq => (show g = q by simpa [Value.ownBlock] using hq) ▸ hg5) hFR5)
      refine wpAnyH_ready (rs := [17]) (by kernel_rfl) (by simp) (AllReadyH.cons rfl (fun K hK => ?_) AllReadyH.nil)
      refine step_appWd (some 43) rfl (by rfl) (.tmp 28) (.tmp 42) 24 (by rfl) (w.alloc (.cells #[.int .i64 0, .slice none 0 0, .int .i64 0, .int .i64 0] 121)).heap.size 106 i1 _ 3 72 Try.underlying24 hi1 hz0 hz1 hz2 (by rfl) (by decide) (.slice (some ⟨g, 0, none⟩) k cp) k cells (by rfl) H6.net.own ⟨b0, 0, none⟩ 1 1 [.slice a8 1 1, .slice a14 1 1, .slice none 0 0] (by rfl) (by rfl) HNW.out (by simp [Value.oneCell']) (by decide) (by unfold maxLen; omega) (by omega) hk6 w6.heap.size rfl ?_
      intro gg cq W' hown hgr hlies hglt
      have hF' := (hgr.block F H6.lt (fun e => H6.farU e.symm)).trans H6.var
      have H8 := hide (H6.append2 (m := 1) HNL.out hown hgr hlies)
      refine hK.out _ _ (cell_of_row W' F 0 _ _ _ hF') (fun hHeld => ?_)
      clear hK K
      simp only [Act.put, List.setIfInBounds_toArray, List.set_cons_zero, List.set_cons_succ]
      refine take_yes (i := 18) (some 44) (.pointer (some ⟨F, 0, none⟩)) rfl rfl (by kernel_rfl) (by kernel_rfl) (by kernel_rfl) (fun _ _ _ h => h) (by rfl) (fun W' hSw => by go_simp) (by assumption) ?_
      simp only [Act.put, List.setIfInBounds_toArray, List.set_cons_zero, List.set_cons_succ]
      refine take_yes (i := 19) (some 45) (.pointer (some ⟨F, 1, none⟩)) rfl rfl (by kernel_rfl) (by kernel_rfl) (by kernel_rfl) (fun _ _ _ h => h) (by rfl) (fun W' hSw => by go_simp) (by assumption) ?_
      simp only [Act.put, List.setIfInBounds_toArray, List.set_cons_zero, List.set_cons_succ]
      refine store_one_next (i := 20) rfl rfl (by kernel_rfl) (by rfl) 24 _ _ rfl F 1 (some ⟨gg, 0, none⟩) (k + 1) cq rfl rfl _ 121 hF' (by simp) (by kernel_rfl) H8.out.cells4.1 (fun hHeld => ?_)
      refine wpAnyH_done (by kernel_rfl) ?_ _
      generalize W'.setCell ⟨F, 1, none⟩ (.slice (some ⟨gg, 0, none⟩) (k + 1) cq) = v8 at *
      have HT := H8
      clear H8 H6 hHeld hown hgr hlies hglt hF' HNL HNW l8 l14 hrow H5 q0 q1 q2 q3 hFR5 e2 e16
      go_wp2_with fail
      refine (one_any 30 bc ca cn cc (q) bs _ HT.out.cur HT.out.bytes (by omega) hn (by omega) (by omega)).mono ?_
      rintro e vt ⟨b, rfl, hcur, ho⟩
      have HU := hide (HT.out.go (Kept.of_only ho) hcur)
      have HRR := hide ((HU.out.kept.block w.heap.size (by simp) (by omega)).trans HRES.out)
      clear HT hcur ho
      cases b
      · obtain ⟨f0, f1, f2, f3⟩ := HU.out.cells4
        have hq := set4R HRR.out (.int .i64 (pn : Int)) (.slice (some ⟨gg, 0, none⟩) (k + 1) cq) (.int .i64 0) (.int .i64 1)
        obtain ⟨r0, r1, r2, r3⟩ := cells4R hq
        obtain ⟨z0, z1, z2, z3, z4, z5, z6, z7⟩ := open4R HRR.out
        have hFR := HU.out.lt
        have hRF : w.heap.size < F := by have := HU.out.hF; simp at this; omega
        go_wp2_with fail
        refine bodyPost_ret (v := .agg #[.int .i64 (pn : Int), (.slice (some ⟨gg, 0, none⟩) (k + 1) cq), .int .i64 0, .int .i64 1]) (by simp [results, Try.results112, go_sem, r0, r1, r2, r3]) rfl ?_
        exact (FlSt.done (by decide) HU.out HR0.out hbc (by omega) (by omega) (by omega) (by omega) (by omega) _ _ _ _)
      · have hAm := below_al vt (.cells #[.int .i64 0, .int .i64 (-1), .int .i64 2, .int .i64 17] 3)
        have HV := hide (HU.out.grow hAm)
        have HRW := hide (row_am vt)
        go_wp2_with fail
        refine (among_any 4 4 _ [0, -1, 2, 17] bc ca cn cc (q + 1) bs _ HV.out.cur HV.out.bytes (by omega) hn (by omega) (by omega) HRW.out (fun _ x hx => by obtain rfl := Option.some.inj hx; have := HU.out.cur.lt; show vt.heap.size ≠ bc; omega)).mono ?_
        rintro e vs ⟨tx, rfl, _, hcur, ho⟩
        have HW := hide (HV.out.go (Kept.of_only ho) hcur)
        have HRS := hide ((HW.out.kept.block w.heap.size (by simp) (by omega)).trans HRES.out)
        have HX := hide (HW.out.setTo tx)
        clear HU HRR HV HRW hcur ho hAm
        obtain ⟨f0, f1, f2, f3⟩ := HW.out.cells4
        have f4 : vs.frozen? ⟨F, 3, none⟩ = false := frozen_of_row vs F 3 _ _ HW.out.var
        have hFR := HW.out.lt
        have hRF : w.heap.size < F := by have := HW.out.hF; simp at this; omega
        have hRX := (show (vs.setCell ⟨F, 3, none⟩ (.int .i64 tx)).heap[w.heap.size]? = _ from (Below.heap_setCell _ _ _ _ (show w.heap.size ≠ F by omega)).trans HRS.out)
        have hq := set4R hRX (.int .i64 (pn : Int)) (.slice (some ⟨gg, 0, none⟩) (k + 1) cq) (.int .i64 0) (.int .i64 tx)
        obtain ⟨r0, r1, r2, r3⟩ := cells4R hq
        obtain ⟨z0, z1, z2, z3, z4, z5, z6, z7⟩ := open4R hRX
        obtain ⟨g0, g1, g2, g3⟩ := HX.out.cells4
        go_wp2_with fail
        refine bodyPost_ret (v := .agg #[.int .i64 (pn : Int), (.slice (some ⟨gg, 0, none⟩) (k + 1) cq), .int .i64 0, .int .i64 tx]) (by simp [results, Try.results112, go_sem, r0, r1, r2, r3]) rfl ?_
        exact (FlSt.done (by decide) HX.out HR0.out hbc (by omega) (by omega) (by omega) (by omega) (by omega) _ _ _ _)
  by_cases s1 : sw = 1
  · subst s1
    go_upto_region 9 with fail
    refine wp_region_held_drew (S := fun W => W.cell? ⟨F, 0, none⟩ = some (.int .i64 (pn : Int)) ∧ W.cell? ⟨F, 1, none⟩ = some (.slice (some ⟨g, 0, none⟩) k cp)) (by kernel_rfl) ⟨q0, q1⟩ (fun hHeld => ?_)
    refine take_yes (i := 0) (some 48) (.pointer (some ⟨F, 0, none⟩)) rfl rfl (by kernel_rfl) (by kernel_rfl) (by kernel_rfl) (fun _ _ _ h => h) (by rfl) (fun W' hSw => by obtain ⟨g0, g1⟩ := hSw; go_simp) (by assumption) ?_
    simp only [Act.put, List.setIfInBounds_toArray, List.set_cons_zero, List.set_cons_succ]
    refine take_yes (i := 1) (some 49) (.pointer (some ⟨F, 1, none⟩)) rfl rfl (by kernel_rfl) (by kernel_rfl) (by kernel_rfl) (fun _ _ _ h => h) (by rfl) (fun W' hSw => by obtain ⟨g0, g1⟩ := hSw; go_simp) (by assumption) ?_
    simp only [Act.put, List.setIfInBounds_toArray, List.set_cons_zero, List.set_cons_succ]
    refine take_yes (i := 2) (some 50) (.slice (some ⟨g, 0, none⟩) k cp) rfl rfl (by kernel_rfl) (by kernel_rfl) (by kernel_rfl) (fun _ _ _ h => h) (by rfl) (fun W' hSw => by obtain ⟨g0, g1⟩ := hSw; go_simp) (by assumption) ?_
    simp only [Act.put, List.setIfInBounds_toArray, List.set_cons_zero, List.set_cons_succ]
    refine take_yes (i := 3) (some 51) (.int .i64 (kk : Int)) rfl rfl (by kernel_rfl) (by kernel_rfl) (by kernel_rfl) (fun _ _ _ h => h) (by rfl) (fun W' hSw => by obtain ⟨g0, g1⟩ := hSw; go_simp) (by assumption) ?_
    simp only [Act.put, List.setIfInBounds_toArray, List.set_cons_zero, List.set_cons_succ]
    refine take_yes (i := 4) (some 52) (.pointer (some ⟨F, 0, none⟩)) rfl rfl (by kernel_rfl) (by kernel_rfl) (by kernel_rfl) (fun _ _ _ h => h) (by rfl) (fun W' hSw => by obtain ⟨g0, g1⟩ := hSw; go_simp) (by assumption) ?_
    simp only [Act.put, List.setIfInBounds_toArray, List.set_cons_zero, List.set_cons_succ]
    refine take_yes (i := 5) (some 53) (.pointer (some ⟨F, 1, none⟩)) rfl rfl (by kernel_rfl) (by kernel_rfl) (by kernel_rfl) (fun _ _ _ h => h) (by rfl) (fun W' hSw => by obtain ⟨g0, g1⟩ := hSw; go_simp) (by assumption) ?_
    simp only [Act.put, List.setIfInBounds_toArray, List.set_cons_zero, List.set_cons_succ]
    refine take_yes (i := 6) (some 54) (.slice (some ⟨g, 0, none⟩) k cp) rfl rfl (by kernel_rfl) (by kernel_rfl) (by kernel_rfl) (fun _ _ _ h => h) (by rfl) (fun W' hSw => by obtain ⟨g0, g1⟩ := hSw; go_simp) (by assumption) ?_
    simp only [Act.put, List.setIfInBounds_toArray, List.set_cons_zero, List.set_cons_succ]
    refine take_yes (i := 7) (some 55) (.int .i64 (kk : Int)) rfl rfl (by kernel_rfl) (by kernel_rfl) (by kernel_rfl) (fun _ _ _ h => h) (by rfl) (fun W' hSw => by obtain ⟨g0, g1⟩ := hSw; go_simp) (by assumption) ?_
    simp only [Act.put, List.setIfInBounds_toArray, List.set_cons_zero, List.set_cons_succ]
    refine take_yes (i := 8) (some 56) (.pointer (some ⟨g, kk * 3, none⟩)) rfl rfl (by kernel_rfl) (by kernel_rfl) (by kernel_rfl) (fun _ _ _ h => h) (by rfl) (fun W' hSw => by obtain ⟨g0, g1⟩ := hSw; go_simp) (by assumption) ?_
    simp only [Act.put, List.setIfInBounds_toArray, List.set_cons_zero, List.set_cons_succ]
    refine take_yes (i := 9) (some 57) (.pointer (some ⟨g, kk * 3 + 1, none⟩)) rfl rfl (by kernel_rfl) (by kernel_rfl) (by kernel_rfl) (fun _ _ _ h => h) (by rfl) (fun W' hSw => by obtain ⟨g0, g1⟩ := hSw; go_simp) (by assumption) ?_
    simp only [Act.put, List.setIfInBounds_toArray, List.set_cons_zero, List.set_cons_succ]
    refine take_yes (i := 11) (some 59) (.pointer (some ⟨bc, 0, none⟩)) rfl rfl (by kernel_rfl) (by kernel_rfl) (by kernel_rfl) (fun _ _ _ h => h) (by rfl) (fun W' hSw => by obtain ⟨g0, g1⟩ := hSw; go_simp) (by assumption) ?_
    simp only [Act.put, List.setIfInBounds_toArray, List.set_cons_zero, List.set_cons_succ]
    refine take_yes (i := 12) (some 60) (.pointer (some ⟨F, 0, none⟩)) rfl rfl (by kernel_rfl) (by kernel_rfl) (by kernel_rfl) (fun _ _ _ h => h) (by rfl) (fun W' hSw => by obtain ⟨g0, g1⟩ := hSw; go_simp) (by assumption) ?_
    simp only [Act.put, List.setIfInBounds_toArray, List.set_cons_zero, List.set_cons_succ]
    refine take_yes (i := 13) (some 61) (.pointer (some ⟨F, 0, none⟩)) rfl rfl (by kernel_rfl) (by kernel_rfl) (by kernel_rfl) (fun _ _ _ h => h) (by rfl) (fun W' hSw => by obtain ⟨g0, g1⟩ := hSw; go_simp) (by assumption) ?_
    simp only [Act.put, List.setIfInBounds_toArray, List.set_cons_zero, List.set_cons_succ]
    refine take_yes (i := 14) (some 62) (.int .i64 (pn : Int)) rfl rfl (by kernel_rfl) (by kernel_rfl) (by kernel_rfl) (fun _ _ _ h => h) (by rfl) (fun W' hSw => by obtain ⟨g0, g1⟩ := hSw; go_simp) (by assumption) ?_
    simp only [Act.put, List.setIfInBounds_toArray, List.set_cons_zero, List.set_cons_succ]
    refine any_go [10, 15] (fun i => i + 48) (fun _ => []) (fun x y => Kept bc x.heap.size x y) (fun P W' => ∃ q, q ≤ p2 + 2 + (if P 15 then 1 else 0) ∧ FlSt 20 (w.alloc (.cells #[.int .i64 0, .slice none 0 0, .int .i64 0, .int .i64 0] 121)) W' bc ca cn cc q bs F (pn : Int) (.slice (some ⟨g, 0, none⟩) k cp) k cells 0 1) (putG (w.alloc (.cells #[.int .i64 0, .slice none 0 0, .int .i64 0, .int .i64 0] 121)).heap.size g F 10) (fuel := 4) (putG_mono (by omega)) (by decide) (fun i _ j _ h => by simpa using h) (by kernel_rfl) (by decide) (by kernel_rfl) (by kernel_rfl) (fun _ _ h => by obtain ⟨q, _, hh⟩ := h; exact ⟨hh.cells4.1, hh.cells4.2.1⟩) ?_ ⟨p2 + 2, Nat.le_add_right _ _, H5.out.grow (Below.refl _ v5).drew⟩ ?_
    · rintro i hi P a z w' o ho hP hoth hdeps ⟨q, hq, hS⟩ K hK
      simp only [List.mem_cons, List.not_mem_nil, or_false] at hi
      rcases hi with rfl | rfl
      all_goals obtain rfl := Option.some.inj ho
      · have e1 := evalD (v := .pointer (some ⟨g, kk * 3 + 1, none⟩)) ((hoth 57 (by decide)).trans rfl)
        obtain ⟨al, nl, cl, xs, hcl, _, hnl, hll, hff⟩ := hS.list (j := kk * 3 + 1) (by omega)
        exact oper_val rfl (v := .slice al nl cl) (w' := w') (by go_simp) (hK _ _ ⟨al, nl, cl, xs, rfl, hnl, hll, hff⟩ (Kept.refl _ _ _) ⟨q, by simpa [upB] using hq, hS⟩)
      · have e1 : a.eval (.tmp 59) = .pointer (some ⟨bc, 0, none⟩) := (hoth 59 (by decide)).trans rfl
        have e2 : a.eval (.tmp 62) = .int .i64 (pn : Int) := (hoth 62 (by decide)).trans rfl
        rw [hP] at hq
        simp at hq
        refine oper_call rfl 71 _ _ _ rfl Try.func71 (by decide) rfl #[.pointer (some ⟨bc, 0, none⟩), .int .i64 (pn : Int)] (mapw2 _ _ _ _ _ e1 e2) _ (pick_any pn bc ca cn cc q bs w' hS.cur hS.bytes (by omega) hn (by omega) (by omega)) ?_
        rintro e w'' ⟨r, rfl, _, hcur, ho⟩
        exact ⟨_, rfl, hK _ _ ⟨r, rfl⟩ (Kept.of_only ho) ⟨q + 1, by simp [upB]; omega, hS.go (Kept.of_only ho) hcur⟩⟩
    · rintro z w6 ⟨q, hq, H6⟩ hG
      have hq' : q ≤ p2 + 3 := by simpa using hq
      obtain ⟨al, nl, cl, xs, e10, hnl, hll, hff⟩ : ∃ a n c xs, z 10 = .slice a n c ∧ n ≤ 20 ∧ NewL (w.alloc (.cells #[.int .i64 0, .slice none 0 0, .int .i64 0, .int .i64 0] 121)).heap.size w6 a n c xs ∧ ∀ o, a = some o → o.block ≠ g ∧ o.block ≠ F := hG 10 (by decide)
      obtain ⟨r, e15⟩ : ∃ r : Nat, z 15 = .int .i64 (r : Int) := hG 15 (by decide)
      clear hG hq
      simp only [frmD, lstD, if_true, Act.put, List.setIfInBounds_toArray, List.set_cons_zero, List.set_cons_succ, e10, e15]
      have hk6 := H6.kept.size
      refine call_next (i := 16) (some 64) rfl rfl (by kernel_rfl) (by rfl) 144 _ _ _ rfl Try.func144 (by decide) rfl #[.slice al nl cl, .int .i64 (r : Int)] (mapw2 _ _ _ _ _ rfl rfl) _ (put_list (r : Int) hll hnl hk6) ?_
      rintro e w7 ⟨g', n', c', ys, rfl, hn', hl', hor, hb7⟩
      have H7 := H6.grow hb7
      have hgl6 : g < w6.heap.size := (H6.net.own.lt g rfl).2
      have hFl6 := H6.lt
      obtain ⟨C, hC, hC2⟩ := H7.row
      have H8 := hide ((H7.wide (M' := 21) (by decide)).set (j := kk * 3 + 1) (by omega) hl' (by omega) (fun o ho => by
        obtain rfl := Option.some.inj ho
        rcases hor with h | h
        · exact hff _ h
        · exact ⟨by show g' ≠ g; omega, by show g' ≠ F; omega⟩))
      refine ⟨_, rfl, ⟨H7.cells4.1, H7.cells4.2.1⟩, fun hHeld => ?_⟩
      simp only [Act.put, List.setIfInBounds_toArray, List.set_cons_zero, List.set_cons_succ]
      refine take_yes (i := 17) (some 65) (.pointer (some ⟨g, kk * 3, none⟩)) rfl rfl (by kernel_rfl) (by kernel_rfl) (by kernel_rfl) (fun _ _ _ h => h) (by rfl) (fun W' hSw => by obtain ⟨g0, g1⟩ := hSw; go_simp) (by assumption) ?_
      simp only [Act.put, List.setIfInBounds_toArray, List.set_cons_zero, List.set_cons_succ]
      refine take_yes (i := 18) (some 66) (.pointer (some ⟨g, kk * 3 + 1, none⟩)) rfl rfl (by kernel_rfl) (by kernel_rfl) (by kernel_rfl) (fun _ _ _ h => h) (by rfl) (fun W' hSw => by obtain ⟨g0, g1⟩ := hSw; go_simp) (by assumption) ?_
      simp only [Act.put, List.setIfInBounds_toArray, List.set_cons_zero, List.set_cons_succ]
      refine store_one_next (i := 19) rfl rfl (by kernel_rfl) (by rfl) 27 _ _ rfl g (kk * 3 + 1) (some ⟨g', 0, none⟩) n' c' rfl rfl C 106 hC (by omega) (by kernel_rfl) ⟨H8.out.cells4.1, H8.out.cells4.2.1⟩ (fun hHeld => ?_)
      refine wpAnyH_done (by kernel_rfl) ?_ _
      generalize w7.setCell ⟨g, kk * 3 + 1, none⟩ (.slice (some ⟨g', 0, none⟩) n' c') = v8 at *
      have HT := H8
      clear H8 H7 H6 hHeld hl' hor hb7 hll hff hC hC2 H5 q0 q1 q2 q3 hFR5
      go_wp2_with fail
      refine (one_any 30 bc ca cn cc (q) bs _ HT.out.cur HT.out.bytes (by omega) hn (by omega) (by omega)).mono ?_
      rintro e vt ⟨b, rfl, hcur, ho⟩
      have HU := hide (HT.out.go (Kept.of_only ho) hcur)
      have HRR := hide ((HU.out.kept.block w.heap.size (by simp) (by omega)).trans HRES.out)
      clear HT hcur ho
      cases b
      · obtain ⟨f0, f1, f2, f3⟩ := HU.out.cells4
        have hq := set4R HRR.out (.int .i64 (pn : Int)) (.slice (some ⟨g, 0, none⟩) k cp) (.int .i64 0) (.int .i64 1)
        obtain ⟨r0, r1, r2, r3⟩ := cells4R hq
        obtain ⟨z0, z1, z2, z3, z4, z5, z6, z7⟩ := open4R HRR.out
        have hFR := HU.out.lt
        have hRF : w.heap.size < F := by have := HU.out.hF; simp at this; omega
        go_wp2_with fail
        refine bodyPost_ret (v := .agg #[.int .i64 (pn : Int), (.slice (some ⟨g, 0, none⟩) k cp), .int .i64 0, .int .i64 1]) (by simp [results, Try.results112, go_sem, r0, r1, r2, r3]) rfl ?_
        exact (FlSt.done (by decide) HU.out HR0.out hbc (by omega) (by omega) (by omega) (by omega) (by omega) _ _ _ _)
      · have hAm := below_al vt (.cells #[.int .i64 0, .int .i64 (-1), .int .i64 2, .int .i64 17] 3)
        have HV := hide (HU.out.grow hAm)
        have HRW := hide (row_am vt)
        go_wp2_with fail
        refine (among_any 4 4 _ [0, -1, 2, 17] bc ca cn cc (q + 1) bs _ HV.out.cur HV.out.bytes (by omega) hn (by omega) (by omega) HRW.out (fun _ x hx => by obtain rfl := Option.some.inj hx; have := HU.out.cur.lt; show vt.heap.size ≠ bc; omega)).mono ?_
        rintro e vs ⟨tx, rfl, _, hcur, ho⟩
        have HW := hide (HV.out.go (Kept.of_only ho) hcur)
        have HRS := hide ((HW.out.kept.block w.heap.size (by simp) (by omega)).trans HRES.out)
        have HX := hide (HW.out.setTo tx)
        clear HU HRR HV HRW hcur ho hAm
        obtain ⟨f0, f1, f2, f3⟩ := HW.out.cells4
        have f4 : vs.frozen? ⟨F, 3, none⟩ = false := frozen_of_row vs F 3 _ _ HW.out.var
        have hFR := HW.out.lt
        have hRF : w.heap.size < F := by have := HW.out.hF; simp at this; omega
        have hRX := (show (vs.setCell ⟨F, 3, none⟩ (.int .i64 tx)).heap[w.heap.size]? = _ from (Below.heap_setCell _ _ _ _ (show w.heap.size ≠ F by omega)).trans HRS.out)
        have hq := set4R hRX (.int .i64 (pn : Int)) (.slice (some ⟨g, 0, none⟩) k cp) (.int .i64 0) (.int .i64 tx)
        obtain ⟨r0, r1, r2, r3⟩ := cells4R hq
        obtain ⟨z0, z1, z2, z3, z4, z5, z6, z7⟩ := open4R hRX
        obtain ⟨g0, g1, g2, g3⟩ := HX.out.cells4
        go_wp2_with fail
        refine bodyPost_ret (v := .agg #[.int .i64 (pn : Int), (.slice (some ⟨g, 0, none⟩) k cp), .int .i64 0, .int .i64 tx]) (by simp [results, Try.results112, go_sem, r0, r1, r2, r3]) rfl ?_
        exact (FlSt.done (by decide) HX.out HR0.out hbc (by omega) (by omega) (by omega) (by omega) (by omega) _ _ _ _)
  by_cases s2 : sw = 2
  · subst s2
    go_upto_region 11 with fail
    refine wp_region_held_drew (S := fun W => W.cell? ⟨F, 0, none⟩ = some (.int .i64 (pn : Int)) ∧ W.cell? ⟨F, 1, none⟩ = some (.slice (some ⟨g, 0, none⟩) k cp)) (by kernel_rfl) ⟨q0, q1⟩ (fun hHeld => ?_)
    refine take_yes (i := 0) (some 69) (.pointer (some ⟨F, 0, none⟩)) rfl rfl (by kernel_rfl) (by kernel_rfl) (by kernel_rfl) (fun _ _ _ h => h) (by rfl) (fun W' hSw => by obtain ⟨g0, g1⟩ := hSw; go_simp) (by assumption) ?_
    simp only [Act.put, List.setIfInBounds_toArray, List.set_cons_zero, List.set_cons_succ]
    refine take_yes (i := 1) (some 70) (.pointer (some ⟨F, 1, none⟩)) rfl rfl (by kernel_rfl) (by kernel_rfl) (by kernel_rfl) (fun _ _ _ h => h) (by rfl) (fun W' hSw => by obtain ⟨g0, g1⟩ := hSw; go_simp) (by assumption) ?_
    simp only [Act.put, List.setIfInBounds_toArray, List.set_cons_zero, List.set_cons_succ]
    refine take_yes (i := 2) (some 71) (.slice (some ⟨g, 0, none⟩) k cp) rfl rfl (by kernel_rfl) (by kernel_rfl) (by kernel_rfl) (fun _ _ _ h => h) (by rfl) (fun W' hSw => by obtain ⟨g0, g1⟩ := hSw; go_simp) (by assumption) ?_
    simp only [Act.put, List.setIfInBounds_toArray, List.set_cons_zero, List.set_cons_succ]
    refine take_yes (i := 3) (some 72) (.int .i64 (kk : Int)) rfl rfl (by kernel_rfl) (by kernel_rfl) (by kernel_rfl) (fun _ _ _ h => h) (by rfl) (fun W' hSw => by obtain ⟨g0, g1⟩ := hSw; go_simp) (by assumption) ?_
    simp only [Act.put, List.setIfInBounds_toArray, List.set_cons_zero, List.set_cons_succ]
    refine take_yes (i := 4) (some 73) (.pointer (some ⟨F, 0, none⟩)) rfl rfl (by kernel_rfl) (by kernel_rfl) (by kernel_rfl) (fun _ _ _ h => h) (by rfl) (fun W' hSw => by obtain ⟨g0, g1⟩ := hSw; go_simp) (by assumption) ?_
    simp only [Act.put, List.setIfInBounds_toArray, List.set_cons_zero, List.set_cons_succ]
    refine take_yes (i := 5) (some 74) (.pointer (some ⟨F, 1, none⟩)) rfl rfl (by kernel_rfl) (by kernel_rfl) (by kernel_rfl) (fun _ _ _ h => h) (by rfl) (fun W' hSw => by obtain ⟨g0, g1⟩ := hSw; go_simp) (by assumption) ?_
    simp only [Act.put, List.setIfInBounds_toArray, List.set_cons_zero, List.set_cons_succ]
    refine take_yes (i := 6) (some 75) (.slice (some ⟨g, 0, none⟩) k cp) rfl rfl (by kernel_rfl) (by kernel_rfl) (by kernel_rfl) (fun _ _ _ h => h) (by rfl) (fun W' hSw => by obtain ⟨g0, g1⟩ := hSw; go_simp) (by assumption) ?_
    simp only [Act.put, List.setIfInBounds_toArray, List.set_cons_zero, List.set_cons_succ]
    refine take_yes (i := 7) (some 76) (.int .i64 (kk : Int)) rfl rfl (by kernel_rfl) (by kernel_rfl) (by kernel_rfl) (fun _ _ _ h => h) (by rfl) (fun W' hSw => by obtain ⟨g0, g1⟩ := hSw; go_simp) (by assumption) ?_
    simp only [Act.put, List.setIfInBounds_toArray, List.set_cons_zero, List.set_cons_succ]
    refine take_yes (i := 8) (some 77) (.pointer (some ⟨g, kk * 3, none⟩)) rfl rfl (by kernel_rfl) (by kernel_rfl) (by kernel_rfl) (fun _ _ _ h => h) (by rfl) (fun W' hSw => by obtain ⟨g0, g1⟩ := hSw; go_simp) (by assumption) ?_
    simp only [Act.put, List.setIfInBounds_toArray, List.set_cons_zero, List.set_cons_succ]
    refine take_yes (i := 9) (some 78) (.pointer (some ⟨g, kk * 3, none⟩)) rfl rfl (by kernel_rfl) (by kernel_rfl) (by kernel_rfl) (fun _ _ _ h => h) (by rfl) (fun W' hSw => by obtain ⟨g0, g1⟩ := hSw; go_simp) (by assumption) ?_
    simp only [Act.put, List.setIfInBounds_toArray, List.set_cons_zero, List.set_cons_succ]
    refine take_yes (i := 11) (some 80) (.pointer (some ⟨bc, 0, none⟩)) rfl rfl (by kernel_rfl) (by kernel_rfl) (by kernel_rfl) (fun _ _ _ h => h) (by rfl) (fun W' hSw => by obtain ⟨g0, g1⟩ := hSw; go_simp) (by assumption) ?_
    simp only [Act.put, List.setIfInBounds_toArray, List.set_cons_zero, List.set_cons_succ]
    refine take_yes (i := 12) (some 81) (.pointer (some ⟨F, 0, none⟩)) rfl rfl (by kernel_rfl) (by kernel_rfl) (by kernel_rfl) (fun _ _ _ h => h) (by rfl) (fun W' hSw => by obtain ⟨g0, g1⟩ := hSw; go_simp) (by assumption) ?_
    simp only [Act.put, List.setIfInBounds_toArray, List.set_cons_zero, List.set_cons_succ]
    refine take_yes (i := 13) (some 82) (.pointer (some ⟨F, 0, none⟩)) rfl rfl (by kernel_rfl) (by kernel_rfl) (by kernel_rfl) (fun _ _ _ h => h) (by rfl) (fun W' hSw => by obtain ⟨g0, g1⟩ := hSw; go_simp) (by assumption) ?_
    simp only [Act.put, List.setIfInBounds_toArray, List.set_cons_zero, List.set_cons_succ]
    refine take_yes (i := 14) (some 83) (.int .i64 (pn : Int)) rfl rfl (by kernel_rfl) (by kernel_rfl) (by kernel_rfl) (fun _ _ _ h => h) (by rfl) (fun W' hSw => by obtain ⟨g0, g1⟩ := hSw; go_simp) (by assumption) ?_
    simp only [Act.put, List.setIfInBounds_toArray, List.set_cons_zero, List.set_cons_succ]
    refine any_go [10, 15] (fun i => i + 69) (fun _ => []) (fun x y => Kept bc x.heap.size x y) (fun P W' => ∃ q, q ≤ p2 + 2 + (if P 15 then 1 else 0) ∧ FlSt 20 (w.alloc (.cells #[.int .i64 0, .slice none 0 0, .int .i64 0, .int .i64 0] 121)) W' bc ca cn cc q bs F (pn : Int) (.slice (some ⟨g, 0, none⟩) k cp) k cells 0 1) (putG (w.alloc (.cells #[.int .i64 0, .slice none 0 0, .int .i64 0, .int .i64 0] 121)).heap.size g F 10) (fuel := 4) (putG_mono (by omega)) (by decide) (fun i _ j _ h => by simpa using h) (by kernel_rfl) (by decide) (by kernel_rfl) (by kernel_rfl) (fun _ _ h => by obtain ⟨q, _, hh⟩ := h; exact ⟨hh.cells4.1, hh.cells4.2.1⟩) ?_ ⟨p2 + 2, Nat.le_add_right _ _, H5.out.grow (Below.refl _ v5).drew⟩ ?_
    · rintro i hi P a z w' o ho hP hoth hdeps ⟨q, hq, hS⟩ K hK
      simp only [List.mem_cons, List.not_mem_nil, or_false] at hi
      rcases hi with rfl | rfl
      all_goals obtain rfl := Option.some.inj ho
      · have e1 := evalD (v := .pointer (some ⟨g, kk * 3, none⟩)) ((hoth 78 (by decide)).trans rfl)
        obtain ⟨al, nl, cl, xs, hcl, _, hnl, hll, hff⟩ := hS.list (j := kk * 3) (by omega)
        exact oper_val rfl (v := .slice al nl cl) (w' := w') (by go_simp) (hK _ _ ⟨al, nl, cl, xs, rfl, hnl, hll, hff⟩ (Kept.refl _ _ _) ⟨q, by simpa [upB] using hq, hS⟩)
      · have e1 : a.eval (.tmp 80) = .pointer (some ⟨bc, 0, none⟩) := (hoth 80 (by decide)).trans rfl
        have e2 : a.eval (.tmp 83) = .int .i64 (pn : Int) := (hoth 83 (by decide)).trans rfl
        rw [hP] at hq
        simp at hq
        refine oper_call rfl 71 _ _ _ rfl Try.func71 (by decide) rfl #[.pointer (some ⟨bc, 0, none⟩), .int .i64 (pn : Int)] (mapw2 _ _ _ _ _ e1 e2) _ (pick_any pn bc ca cn cc q bs w' hS.cur hS.bytes (by omega) hn (by omega) (by omega)) ?_
        rintro e w'' ⟨r, rfl, _, hcur, ho⟩
        exact ⟨_, rfl, hK _ _ ⟨r, rfl⟩ (Kept.of_only ho) ⟨q + 1, by simp [upB]; omega, hS.go (Kept.of_only ho) hcur⟩⟩
    · rintro z w6 ⟨q, hq, H6⟩ hG
      have hq' : q ≤ p2 + 3 := by simpa using hq
      obtain ⟨al, nl, cl, xs, e10, hnl, hll, hff⟩ : ∃ a n c xs, z 10 = .slice a n c ∧ n ≤ 20 ∧ NewL (w.alloc (.cells #[.int .i64 0, .slice none 0 0, .int .i64 0, .int .i64 0] 121)).heap.size w6 a n c xs ∧ ∀ o, a = some o → o.block ≠ g ∧ o.block ≠ F := hG 10 (by decide)
      obtain ⟨r, e15⟩ : ∃ r : Nat, z 15 = .int .i64 (r : Int) := hG 15 (by decide)
      clear hG hq
      simp only [frmD, lstD, if_true, Act.put, List.setIfInBounds_toArray, List.set_cons_zero, List.set_cons_succ, e10, e15]
      have hk6 := H6.kept.size
      refine call_next (i := 16) (some 85) rfl rfl (by kernel_rfl) (by rfl) 144 _ _ _ rfl Try.func144 (by decide) rfl #[.slice al nl cl, .int .i64 (r : Int)] (mapw2 _ _ _ _ _ rfl rfl) _ (put_list (r : Int) hll hnl hk6) ?_
      rintro e w7 ⟨g', n', c', ys, rfl, hn', hl', hor, hb7⟩
      have H7 := H6.grow hb7
      have hgl6 : g < w6.heap.size := (H6.net.own.lt g rfl).2
      have hFl6 := H6.lt
      obtain ⟨C, hC, hC2⟩ := H7.row
      have H8 := hide ((H7.wide (M' := 21) (by decide)).set (j := kk * 3) (by omega) hl' (by omega) (fun o ho => by
        obtain rfl := Option.some.inj ho
        rcases hor with h | h
        · exact hff _ h
        · exact ⟨by show g' ≠ g; omega, by show g' ≠ F; omega⟩))
      refine ⟨_, rfl, ⟨H7.cells4.1, H7.cells4.2.1⟩, fun hHeld => ?_⟩
      simp only [Act.put, List.setIfInBounds_toArray, List.set_cons_zero, List.set_cons_succ]
      refine take_yes (i := 17) (some 86) (.pointer (some ⟨g, kk * 3, none⟩)) rfl rfl (by kernel_rfl) (by kernel_rfl) (by kernel_rfl) (fun _ _ _ h => h) (by rfl) (fun W' hSw => by obtain ⟨g0, g1⟩ := hSw; go_simp) (by assumption) ?_
      simp only [Act.put, List.setIfInBounds_toArray, List.set_cons_zero, List.set_cons_succ]
      refine take_yes (i := 18) (some 87) (.pointer (some ⟨g, kk * 3, none⟩)) rfl rfl (by kernel_rfl) (by kernel_rfl) (by kernel_rfl) (fun _ _ _ h => h) (by rfl) (fun W' hSw => by obtain ⟨g0, g1⟩ := hSw; go_simp) (by assumption) ?_
      simp only [Act.put, List.setIfInBounds_toArray, List.set_cons_zero, List.set_cons_succ]
      refine store_one_next (i := 19) rfl rfl (by kernel_rfl) (by rfl) 27 _ _ rfl g (kk * 3) (some ⟨g', 0, none⟩) n' c' rfl rfl C 106 hC (by omega) (by kernel_rfl) ⟨H8.out.cells4.1, H8.out.cells4.2.1⟩ (fun hHeld => ?_)
      refine wpAnyH_done (by kernel_rfl) ?_ _
      generalize w7.setCell ⟨g, kk * 3, none⟩ (.slice (some ⟨g', 0, none⟩) n' c') = v8 at *
      have HT := H8
      clear H8 H7 H6 hHeld hl' hor hb7 hll hff hC hC2 H5 q0 q1 q2 q3 hFR5
      go_wp2_with fail
      refine (one_any 30 bc ca cn cc (q) bs _ HT.out.cur HT.out.bytes (by omega) hn (by omega) (by omega)).mono ?_
      rintro e vt ⟨b, rfl, hcur, ho⟩
      have HU := hide (HT.out.go (Kept.of_only ho) hcur)
      have HRR := hide ((HU.out.kept.block w.heap.size (by simp) (by omega)).trans HRES.out)
      clear HT hcur ho
      cases b
      · obtain ⟨f0, f1, f2, f3⟩ := HU.out.cells4
        have hq := set4R HRR.out (.int .i64 (pn : Int)) (.slice (some ⟨g, 0, none⟩) k cp) (.int .i64 0) (.int .i64 1)
        obtain ⟨r0, r1, r2, r3⟩ := cells4R hq
        obtain ⟨z0, z1, z2, z3, z4, z5, z6, z7⟩ := open4R HRR.out
        have hFR := HU.out.lt
        have hRF : w.heap.size < F := by have := HU.out.hF; simp at this; omega
        go_wp2_with fail
        refine bodyPost_ret (v := .agg #[.int .i64 (pn : Int), (.slice (some ⟨g, 0, none⟩) k cp), .int .i64 0, .int .i64 1]) (by simp [results, Try.results112, go_sem, r0, r1, r2, r3]) rfl ?_
        exact (FlSt.done (by decide) HU.out HR0.out hbc (by omega) (by omega) (by omega) (by omega) (by omega) _ _ _ _)
      · have hAm := below_al vt (.cells #[.int .i64 0, .int .i64 (-1), .int .i64 2, .int .i64 17] 3)
        have HV := hide (HU.out.grow hAm)
        have HRW := hide (row_am vt)
        go_wp2_with fail
        refine (among_any 4 4 _ [0, -1, 2, 17] bc ca cn cc (q + 1) bs _ HV.out.cur HV.out.bytes (by omega) hn (by omega) (by omega) HRW.out (fun _ x hx => by obtain rfl := Option.some.inj hx; have := HU.out.cur.lt; show vt.heap.size ≠ bc; omega)).mono ?_
        rintro e vs ⟨tx, rfl, _, hcur, ho⟩
        have HW := hide (HV.out.go (Kept.of_only ho) hcur)
        have HRS := hide ((HW.out.kept.block w.heap.size (by simp) (by omega)).trans HRES.out)
        have HX := hide (HW.out.setTo tx)
        clear HU HRR HV HRW hcur ho hAm
        obtain ⟨f0, f1, f2, f3⟩ := HW.out.cells4
        have f4 : vs.frozen? ⟨F, 3, none⟩ = false := frozen_of_row vs F 3 _ _ HW.out.var
        have hFR := HW.out.lt
        have hRF : w.heap.size < F := by have := HW.out.hF; simp at this; omega
        have hRX := (show (vs.setCell ⟨F, 3, none⟩ (.int .i64 tx)).heap[w.heap.size]? = _ from (Below.heap_setCell _ _ _ _ (show w.heap.size ≠ F by omega)).trans HRS.out)
        have hq := set4R hRX (.int .i64 (pn : Int)) (.slice (some ⟨g, 0, none⟩) k cp) (.int .i64 0) (.int .i64 tx)
        obtain ⟨r0, r1, r2, r3⟩ := cells4R hq
        obtain ⟨z0, z1, z2, z3, z4, z5, z6, z7⟩ := open4R hRX
        obtain ⟨g0, g1, g2, g3⟩ := HX.out.cells4
        go_wp2_with fail
        refine bodyPost_ret (v := .agg #[.int .i64 (pn : Int), (.slice (some ⟨g, 0, none⟩) k cp), .int .i64 0, .int .i64 tx]) (by simp [results, Try.results112, go_sem, r0, r1, r2, r3]) rfl ?_
        exact (FlSt.done (by decide) HX.out HR0.out hbc (by omega) (by omega) (by omega) (by omega) (by omega) _ _ _ _)
  by_cases s3 : sw = 3
  · subst s3
    cases rs
    · have HT := H5
      clear H5 q0 q1 q2 q3 hFR5
      go_wp2_with fail
      refine (one_any 30 bc ca cn cc (p2 + 2) bs _ HT.out.cur HT.out.bytes (by omega) hn (by omega) (by omega)).mono ?_
      rintro e vt ⟨b, rfl, hcur, ho⟩
      have HU := hide (HT.out.go (Kept.of_only ho) hcur)
      have HRR := hide ((HU.out.kept.block w.heap.size (by simp) (by omega)).trans HRES.out)
      clear HT hcur ho
      cases b
      · obtain ⟨f0, f1, f2, f3⟩ := HU.out.cells4
        have hq := set4R HRR.out (.int .i64 (pn : Int)) (.slice (some ⟨g, 0, none⟩) k cp) (.int .i64 0) (.int .i64 1)
        obtain ⟨r0, r1, r2, r3⟩ := cells4R hq
        obtain ⟨z0, z1, z2, z3, z4, z5, z6, z7⟩ := open4R HRR.out
        have hFR := HU.out.lt
        have hRF : w.heap.size < F := by have := HU.out.hF; simp at this; omega
        go_wp2_with fail
        refine bodyPost_ret (v := .agg #[.int .i64 (pn : Int), (.slice (some ⟨g, 0, none⟩) k cp), .int .i64 0, .int .i64 1]) (by simp [results, Try.results112, go_sem, r0, r1, r2, r3]) rfl ?_
        exact (FlSt.done (by decide) HU.out HR0.out hbc (by omega) (by omega) (by omega) (by omega) (by omega) _ _ _ _)
      · have hAm := below_al vt (.cells #[.int .i64 0, .int .i64 (-1), .int .i64 2, .int .i64 17] 3)
        have HV := hide (HU.out.grow hAm)
        have HRW := hide (row_am vt)
        go_wp2_with fail
        refine (among_any 4 4 _ [0, -1, 2, 17] bc ca cn cc (p2 + 2 + 1) bs _ HV.out.cur HV.out.bytes (by omega) hn (by omega) (by omega) HRW.out (fun _ x hx => by obtain rfl := Option.some.inj hx; have := HU.out.cur.lt; show vt.heap.size ≠ bc; omega)).mono ?_
        rintro e vs ⟨tx, rfl, _, hcur, ho⟩
        have HW := hide (HV.out.go (Kept.of_only ho) hcur)
        have HRS := hide ((HW.out.kept.block w.heap.size (by simp) (by omega)).trans HRES.out)
        have HX := hide (HW.out.setTo tx)
        clear HU HRR HV HRW hcur ho hAm
        obtain ⟨f0, f1, f2, f3⟩ := HW.out.cells4
        have f4 : vs.frozen? ⟨F, 3, none⟩ = false := frozen_of_row vs F 3 _ _ HW.out.var
        have hFR := HW.out.lt
        have hRF : w.heap.size < F := by have := HW.out.hF; simp at this; omega
        have hRX := (show (vs.setCell ⟨F, 3, none⟩ (.int .i64 tx)).heap[w.heap.size]? = _ from (Below.heap_setCell _ _ _ _ (show w.heap.size ≠ F by omega)).trans HRS.out)
        have hq := set4R hRX (.int .i64 (pn : Int)) (.slice (some ⟨g, 0, none⟩) k cp) (.int .i64 0) (.int .i64 tx)
        obtain ⟨r0, r1, r2, r3⟩ := cells4R hq
        obtain ⟨z0, z1, z2, z3, z4, z5, z6, z7⟩ := open4R hRX
        obtain ⟨g0, g1, g2, g3⟩ := HX.out.cells4
        go_wp2_with fail
        refine bodyPost_ret (v := .agg #[.int .i64 (pn : Int), (.slice (some ⟨g, 0, none⟩) k cp), .int .i64 0, .int .i64 tx]) (by simp [results, Try.results112, go_sem, r0, r1, r2, r3]) rfl ?_
        exact (FlSt.done (by decide) HX.out HR0.out hbc (by omega) (by omega) (by omega) (by omega) (by omega) _ _ _ _)
    · go_upto_region 14 with fail
      refine wp_region_held_drew (S := fun W => W.cell? ⟨F, 0, none⟩ = some (.int .i64 (pn : Int)) ∧ W.cell? ⟨F, 1, none⟩ = some (.slice (some ⟨g, 0, none⟩) k cp)) (by kernel_rfl) ⟨q0, q1⟩ (fun hHeld => ?_)
      refine take_yes (i := 0) (some 91) (.pointer (some ⟨F, 0, none⟩)) rfl rfl (by kernel_rfl) (by kernel_rfl) (by kernel_rfl) (fun _ _ _ h => h) (by rfl) (fun W' hSw => by obtain ⟨g0, g1⟩ := hSw; go_simp) (by assumption) ?_
      simp only [Act.put, List.setIfInBounds_toArray, List.set_cons_zero, List.set_cons_succ]
      refine take_yes (i := 1) (some 92) (.pointer (some ⟨F, 1, none⟩)) rfl rfl (by kernel_rfl) (by kernel_rfl) (by kernel_rfl) (fun _ _ _ h => h) (by rfl) (fun W' hSw => by obtain ⟨g0, g1⟩ := hSw; go_simp) (by assumption) ?_
      simp only [Act.put, List.setIfInBounds_toArray, List.set_cons_zero, List.set_cons_succ]
      refine take_yes (i := 2) (some 93) (.slice (some ⟨g, 0, none⟩) k cp) rfl rfl (by kernel_rfl) (by kernel_rfl) (by kernel_rfl) (fun _ _ _ h => h) (by rfl) (fun W' hSw => by obtain ⟨g0, g1⟩ := hSw; go_simp) (by assumption) ?_
      simp only [Act.put, List.setIfInBounds_toArray, List.set_cons_zero, List.set_cons_succ]
      refine take_yes (i := 3) (some 94) (.int .i64 (kk : Int)) rfl rfl (by kernel_rfl) (by kernel_rfl) (by kernel_rfl) (fun _ _ _ h => h) (by rfl) (fun W' hSw => by obtain ⟨g0, g1⟩ := hSw; go_simp) (by assumption) ?_
      simp only [Act.put, List.setIfInBounds_toArray, List.set_cons_zero, List.set_cons_succ]
      refine take_yes (i := 4) (some 95) (.pointer (some ⟨bc, 0, none⟩)) rfl rfl (by kernel_rfl) (by kernel_rfl) (by kernel_rfl) (fun _ _ _ h => h) (by rfl) (fun W' hSw => by obtain ⟨g0, g1⟩ := hSw; go_simp) (by assumption) ?_
      simp only [Act.put, List.setIfInBounds_toArray, List.set_cons_zero, List.set_cons_succ]
      refine take_yes (i := 5) (some 96) (.pointer (some ⟨F, 0, none⟩)) rfl rfl (by kernel_rfl) (by kernel_rfl) (by kernel_rfl) (fun _ _ _ h => h) (by rfl) (fun W' hSw => by obtain ⟨g0, g1⟩ := hSw; go_simp) (by assumption) ?_
      simp only [Act.put, List.setIfInBounds_toArray, List.set_cons_zero, List.set_cons_succ]
      refine take_yes (i := 6) (some 97) (.pointer (some ⟨F, 0, none⟩)) rfl rfl (by kernel_rfl) (by kernel_rfl) (by kernel_rfl) (fun _ _ _ h => h) (by rfl) (fun W' hSw => by obtain ⟨g0, g1⟩ := hSw; go_simp) (by assumption) ?_
      simp only [Act.put, List.setIfInBounds_toArray, List.set_cons_zero, List.set_cons_succ]
      refine take_yes (i := 7) (some 98) (.int .i64 (pn : Int)) rfl rfl (by kernel_rfl) (by kernel_rfl) (by kernel_rfl) (fun _ _ _ h => h) (by rfl) (fun W' hSw => by obtain ⟨g0, g1⟩ := hSw; go_simp) (by assumption) ?_
      simp only [Act.put, List.setIfInBounds_toArray, List.set_cons_zero, List.set_cons_succ]
      have H5d := H5.out.grow (Below.refl _ v5).drew
      refine call_next (i := 8) (some 99) rfl rfl (by kernel_rfl) (by rfl) 110 _ _ _ rfl Try.func110 (by decide) rfl #[.pointer (some ⟨bc, 0, none⟩), .int .i64 (pn : Int), .int .i64 1, .int .i64 2] (mapw4 _ _ _ _ _ _ _ _ _ rfl rfl rfl rfl) _ (some_draw pn 1 bc ca cn cc (p2 + 2) bs _ H5d.cur H5d.bytes H5d.apart (by omega) hn (by omega) (by omega) (by omega)) ?_
      rintro e w7 ⟨a3, n3, c3, x3, q, rfl, hn3, hl3, hq3, hc3, hb3, hk3⟩
      have H7 := H5d.go hk3 hc3
      have hgl6 : g < v5.drew.heap.size := (H5d.net.own.lt g rfl).2
      have hFl6 := H5d.lt
      have hkz := H5d.kept.size
      obtain ⟨C, hC, hC2⟩ := H7.row
      have H8 := hide (H7.set (j := kk * 3 + 2) (by omega) (hl3.mono hkz) (by omega) (fun o ho => by
        have := (hl3.lt ho).1
        exact ⟨by omega, by omega⟩))
      refine ⟨_, rfl, ⟨H7.cells4.1, H7.cells4.2.1⟩, fun hHeld => ?_⟩
      simp only [Act.put, List.setIfInBounds_toArray, List.set_cons_zero, List.set_cons_succ]
      refine take_yes (i := 9) (some 100) (.pointer (some ⟨g, kk * 3, none⟩)) rfl rfl (by kernel_rfl) (by kernel_rfl) (by kernel_rfl) (fun _ _ _ h => h) (by rfl) (fun W' hSw => by obtain ⟨g0, g1⟩ := hSw; go_simp) (by assumption) ?_
      simp only [Act.put, List.setIfInBounds_toArray, List.set_cons_zero, List.set_cons_succ]
      refine take_yes (i := 10) (some 101) (.pointer (some ⟨g, kk * 3 + 2, none⟩)) rfl rfl (by kernel_rfl) (by kernel_rfl) (by kernel_rfl) (fun _ _ _ h => h) (by rfl) (fun W' hSw => by obtain ⟨g0, g1⟩ := hSw; go_simp) (by assumption) ?_
      simp only [Act.put, List.setIfInBounds_toArray, List.set_cons_zero, List.set_cons_succ]
      refine store_one_next (i := 11) rfl rfl (by kernel_rfl) (by rfl) 27 _ _ rfl g (kk * 3 + 2) a3 n3 c3 rfl rfl C 106 hC (by omega) (by kernel_rfl) ⟨H8.out.cells4.1, H8.out.cells4.2.1⟩ (fun hHeld => ?_)
      refine wpAnyH_done (by kernel_rfl) ?_ _
      generalize w7.setCell ⟨g, kk * 3 + 2, none⟩ (.slice a3 n3 c3) = v8 at *
      have HT := H8
      clear H8 H7 H5d hHeld hl3 hc3 hb3 hk3 hC hC2 H5 q0 q1 q2 q3 hFR5
      go_wp2_with fail
      refine (one_any 30 bc ca cn cc (q) bs _ HT.out.cur HT.out.bytes (by omega) hn (by omega) (by omega)).mono ?_
      rintro e vt ⟨b, rfl, hcur, ho⟩
      have HU := hide (HT.out.go (Kept.of_only ho) hcur)
      have HRR := hide ((HU.out.kept.block w.heap.size (by simp) (by omega)).trans HRES.out)
      clear HT hcur ho
      cases b
      · obtain ⟨f0, f1, f2, f3⟩ := HU.out.cells4
        have hq := set4R HRR.out (.int .i64 (pn : Int)) (.slice (some ⟨g, 0, none⟩) k cp) (.int .i64 0) (.int .i64 1)
        obtain ⟨r0, r1, r2, r3⟩ := cells4R hq
        obtain ⟨z0, z1, z2, z3, z4, z5, z6, z7⟩ := open4R HRR.out
        have hFR := HU.out.lt
        have hRF : w.heap.size < F := by have := HU.out.hF; simp at this; omega
        go_wp2_with fail
        refine bodyPost_ret (v := .agg #[.int .i64 (pn : Int), (.slice (some ⟨g, 0, none⟩) k cp), .int .i64 0, .int .i64 1]) (by simp [results, Try.results112, go_sem, r0, r1, r2, r3]) rfl ?_
        exact (FlSt.done (by decide) HU.out HR0.out hbc (by omega) (by omega) (by omega) (by omega) (by omega) _ _ _ _)
      · have hAm := below_al vt (.cells #[.int .i64 0, .int .i64 (-1), .int .i64 2, .int .i64 17] 3)
        have HV := hide (HU.out.grow hAm)
        have HRW := hide (row_am vt)
        go_wp2_with fail
        refine (among_any 4 4 _ [0, -1, 2, 17] bc ca cn cc (q + 1) bs _ HV.out.cur HV.out.bytes (by omega) hn (by omega) (by omega) HRW.out (fun _ x hx => by obtain rfl := Option.some.inj hx; have := HU.out.cur.lt; show vt.heap.size ≠ bc; omega)).mono ?_
        rintro e vs ⟨tx, rfl, _, hcur, ho⟩
        have HW := hide (HV.out.go (Kept.of_only ho) hcur)
        have HRS := hide ((HW.out.kept.block w.heap.size (by simp) (by omega)).trans HRES.out)
        have HX := hide (HW.out.setTo tx)
        clear HU HRR HV HRW hcur ho hAm
        obtain ⟨f0, f1, f2, f3⟩ := HW.out.cells4
        have f4 : vs.frozen? ⟨F, 3, none⟩ = false := frozen_of_row vs F 3 _ _ HW.out.var
        have hFR := HW.out.lt
        have hRF : w.heap.size < F := by have := HW.out.hF; simp at this; omega
        have hRX := (show (vs.setCell ⟨F, 3, none⟩ (.int .i64 tx)).heap[w.heap.size]? = _ from (Below.heap_setCell _ _ _ _ (show w.heap.size ≠ F by omega)).trans HRS.out)
        have hq := set4R hRX (.int .i64 (pn : Int)) (.slice (some ⟨g, 0, none⟩) k cp) (.int .i64 0) (.int .i64 tx)
        obtain ⟨r0, r1, r2, r3⟩ := cells4R hq
        obtain ⟨z0, z1, z2, z3, z4, z5, z6, z7⟩ := open4R hRX
        obtain ⟨g0, g1, g2, g3⟩ := HX.out.cells4
        go_wp2_with fail
        refine bodyPost_ret (v := .agg #[.int .i64 (pn : Int), (.slice (some ⟨g, 0, none⟩) k cp), .int .i64 0, .int .i64 tx]) (by simp [results, Try.results112, go_sem, r0, r1, r2, r3]) rfl ?_
        exact (FlSt.done (by decide) HX.out HR0.out hbc (by omega) (by omega) (by omega) (by omega) (by omega) _ _ _ _)
  have t0 : ¬ (sw : Int) = 0 := by omega
  have t1 : ¬ (sw : Int) = 1 := by omega
  have t2 : ¬ (sw : Int) = 2 := by omega
  have t3 : ¬ (sw : Int) = 3 := by omega
  have HT := H5
  clear H5 q0 q1 q2 q3 hFR5
  go_wp2_with fail
  refine (one_any 30 bc ca cn cc (p2 + 2) bs _ HT.out.cur HT.out.bytes (by omega) hn (by omega) (by omega)).mono ?_
  rintro e vt ⟨b, rfl, hcur, ho⟩
  have HU := hide (HT.out.go (Kept.of_only ho) hcur)
  have HRR := hide ((HU.out.kept.block w.heap.size (by simp) (by omega)).trans HRES.out)
  clear HT hcur ho
  cases b
  · obtain ⟨f0, f1, f2, f3⟩ := HU.out.cells4
    have hq := set4R HRR.out (.int .i64 (pn : Int)) (.slice (some ⟨g, 0, none⟩) k cp) (.int .i64 0) (.int .i64 1)
    obtain ⟨r0, r1, r2, r3⟩ := cells4R hq
    obtain ⟨z0, z1, z2, z3, z4, z5, z6, z7⟩ := open4R HRR.out
    have hFR := HU.out.lt
    have hRF : w.heap.size < F := by have := HU.out.hF; simp at this; omega
    go_wp2_with fail
    refine bodyPost_ret (v := .agg #[.int .i64 (pn : Int), (.slice (some ⟨g, 0, none⟩) k cp), .int .i64 0, .int .i64 1]) (by simp [results, Try.results112, go_sem, r0, r1, r2, r3]) rfl ?_
    exact (FlSt.done (by decide) HU.out HR0.out hbc (by omega) (by omega) (by omega) (by omega) (by omega) _ _ _ _)
  · have hAm := below_al vt (.cells #[.int .i64 0, .int .i64 (-1), .int .i64 2, .int .i64 17] 3)
    have HV := hide (HU.out.grow hAm)
    have HRW := hide (row_am vt)
    go_wp2_with fail
    refine (among_any 4 4 _ [0, -1, 2, 17] bc ca cn cc (p2 + 2 + 1) bs _ HV.out.cur HV.out.bytes (by omega) hn (by omega) (by omega) HRW.out (fun _ x hx => by obtain rfl := Option.some.inj hx; have := HU.out.cur.lt; show vt.heap.size ≠ bc; omega)).mono ?_
    rintro e vs ⟨tx, rfl, _, hcur, ho⟩
    have HW := hide (HV.out.go (Kept.of_only ho) hcur)
    have HRS := hide ((HW.out.kept.block w.heap.size (by simp) (by omega)).trans HRES.out)
    have HX := hide (HW.out.setTo tx)
    clear HU HRR HV HRW hcur ho hAm
    obtain ⟨f0, f1, f2, f3⟩ := HW.out.cells4
    have f4 : vs.frozen? ⟨F, 3, none⟩ = false := frozen_of_row vs F 3 _ _ HW.out.var
    have hFR := HW.out.lt
    have hRF : w.heap.size < F := by have := HW.out.hF; simp at this; omega
    have hRX := (show (vs.setCell ⟨F, 3, none⟩ (.int .i64 tx)).heap[w.heap.size]? = _ from (Below.heap_setCell _ _ _ _ (show w.heap.size ≠ F by omega)).trans HRS.out)
    have hq := set4R hRX (.int .i64 (pn : Int)) (.slice (some ⟨g, 0, none⟩) k cp) (.int .i64 0) (.int .i64 tx)
    obtain ⟨r0, r1, r2, r3⟩ := cells4R hq
    obtain ⟨z0, z1, z2, z3, z4, z5, z6, z7⟩ := open4R hRX
    obtain ⟨g0, g1, g2, g3⟩ := HX.out.cells4
    go_wp2_with fail
    refine bodyPost_ret (v := .agg #[.int .i64 (pn : Int), (.slice (some ⟨g, 0, none⟩) k cp), .int .i64 0, .int .i64 tx]) (by simp [results, Try.results112, go_sem, r0, r1, r2, r3]) rfl ?_
    exact (FlSt.done (by decide) HX.out HR0.out hbc (by omega) (by omega) (by omega) (by omega) (by omega) _ _ _ _)
end Go.Proofs.Ytajcmamapmeglaa
