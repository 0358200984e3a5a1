/- Contracts that the proof stands on, one behind the other. -/
import Derived.Test.YtdhnhpjcoeglmaaP11
/- The specification's l4Explore: it goes by the same function; for every net, mark and budget in memory. -/
namespace Go.Proofs.Ytdhnhpjcoeglmaa
open Go.RowKit
set_option maxRecDepth 10000

theorem own_ty {w : World} {B : Nat} {e : TypeId} {size : Nat} {v : Value} {n : Nat} {xs : List Value} (h : w.ownsRow B e size v n xs) {g : Nat} (hg : v.ownBlock = some g) : ∃ cur, w.heap[g]? = some (.cells cur e (0, 0)) := by
  rcases h.2 with ⟨rfl, _⟩ | ⟨g', cap, cur, rfl, _, h2, _⟩
  · simp [Value.ownBlock] at hg
  · simp [Value.ownBlock] at hg; subst hg; exact ⟨cur, h2⟩

/-- The marks of the specification's space: each is a list of the call's own. -/
def MRow (w : World) (B : Nat) (v : Value) (l : Nat) (ms : List (List Int)) : Prop :=
  ∃ cs, w.ownsRow B 31 1 v ms.length cs ∧ ∀ i, i < ms.length → ∃ g c, cs[i]? = some (.slice (some ⟨g, 0, none⟩) l c) ∧ OutR w g l (ms.getD i [])

/-- Blocks of integers are as they were. -/
structure Turn3 (w w' : World) : Prop where
  size : w.heap.size ≤ w'.heap.size
  ints : ∀ (g : Nat) (cs : Array Value), w.heap[g]? = some (Obj.cells cs 3 (0, 0)) → w'.heap[g]? = w.heap[g]?

theorem Turn3.refl (w : World) : Turn3 w w := ⟨Nat.le_refl _, fun _ _ _ => rfl⟩
theorem Turn3.trans {u v w : World} (h : Turn3 u v) (g : Turn3 v w) : Turn3 u w :=
  ⟨Nat.le_trans h.size g.size, fun i cs hi => (g.ints i cs ((h.ints i cs hi).trans hi)).trans (h.ints i cs hi)⟩
theorem Turn3.of_below {w w' : World} (h : Below w.heap.size w w') : Turn3 w w' := ⟨h.size, fun g _ hg => h.block g (Array.getElem?_eq_some_iff.mp hg).1⟩

theorem OutR.turn {w w' : World} {g n : Nat} {ys : List Int} (h : OutR w g n ys) (ht : Turn3 w w') : OutR w' g n ys := by
  obtain ⟨hl, cur, h1, h2, h3⟩ := h
  exact ⟨hl, cur, (ht.ints g cur h1).trans h1, h2, h3⟩

theorem own_turn {w w' : World} {B : Nat} {size : Nat} {v : Value} {n : Nat} {xs : List Value} (h : w.ownsRow B 3 size v n xs) (ht : Turn3 w w') : w'.ownsRow B 3 size v n xs :=
  ownsRow_kept h fun g hg => by obtain ⟨cur, hc⟩ := own_ty h hg; exact ht.ints g cur hc

theorem MRow.kept {w w' : World} {B l : Nat} {v : Value} {ms : List (List Int)} (h : MRow w B v l ms) (ht : Turn3 w w') (h2 : ∀ g, v.ownBlock = some g → w'.heap[g]? = w.heap[g]?) : MRow w' B v l ms := by
  obtain ⟨cs, h1, h3⟩ := h
  refine ⟨cs, ownsRow_kept h1 h2, fun i hi => ?_⟩
  obtain ⟨g, c, e1, e2⟩ := h3 i hi
  exact ⟨g, c, e1, e2.turn ht⟩

theorem MRow.go {w w' : World} {B l : Nat} {v : Value} {ms : List (List Int)} (h : MRow w B v l ms) (hb : Below w.heap.size w w') : MRow w' B v l ms := by
  refine h.kept (Turn3.of_below hb) fun g hg => ?_
  obtain ⟨cs, h1, _⟩ := h
  exact hb.block g (own_lt h1 hg).2

theorem MRow.form {w : World} {B l : Nat} {v : Value} {ms : List (List Int)} (h : MRow w B v l ms) : ∃ a c, v = .slice a ms.length c := by
  obtain ⟨cs, h1, _⟩ := h
  exact own_form h1

theorem MRow.lists {w : World} {B l : Nat} {a : Option Addr} {n c : Nat} {ms : List (List Int)} (h : MRow w B (.slice a n c) l ms) (hl : l ≤ maxLen) : Lists w a ms.length ms := by
  obtain ⟨cs, h1, h2⟩ := h
  refine ⟨rfl, ?_⟩
  rcases h1.2 with ⟨_, h0⟩ | ⟨g, cap, cur, e, hb, hh, hn, hc, hs, ht⟩
  · exact .inl h0
  · have e' := e
    simp only [Value.slice.injEq] at e'
    obtain ⟨rfl, rfl, rfl⟩ := e'
    refine .inr ⟨g, 0, rfl, (Array.getElem?_eq_some_iff.mp hh).1, fun j hj => ?_⟩
    obtain ⟨g', c', e1, e2⟩ := h2 j hj
    exact ⟨_, l, c', by rw [Nat.zero_add, h1.cellAt j (by omega)]; exact e1, hl, e2.row⟩

theorem MRow.at_ {w : World} {B l : Nat} {a : Option Addr} {n c : Nat} {ms : List (List Int)} (h : MRow w B (.slice a n c) l ms) {k : Nat} (hk : k < ms.length) :
    ∃ b g' c', a = some ⟨b, 0, none⟩ ∧ b < w.heap.size ∧ w.cell? ⟨b, k, none⟩ = some (.slice (some ⟨g', 0, none⟩) l c') ∧ OutR w g' l (ms.getD k []) := by
  obtain ⟨cs, h1, h2⟩ := h
  rcases h1.2 with ⟨_, h0⟩ | ⟨g, cap, cur, e, hb, hh, hn, hc, hs, ht⟩
  · omega
  · simp only [Value.slice.injEq] at e
    obtain ⟨rfl, rfl, rfl⟩ := e
    obtain ⟨g', c', e1, e2⟩ := h2 k hk
    refine ⟨g, g', c', rfl, (Array.getElem?_eq_some_iff.mp hh).1, ?_, e2⟩
    rw [h1.cellAt k (by omega)]; exact e1

/-- The state of the specification's search in memory. -/
structure SeSt (w0 w : World) (hN h6 b : Nat) (p : Int) (a : Option Addr) (n c l : Nat) (mv av : Value) (ms : List (List Int)) (ar : List (Nat × Nat × Nat)) : Prop where
  bel : Below w0.heap.size w0 w
  net : w.heap[hN]? = some (.cells #[.int .i64 p, .slice a n c] 26 (0, 0))
  res : w.heap[h6]? = some (.cells #[.slice none 0 0, .slice none 0 0] 61 (0, 0))
  st : w.heap[b]? = some (.cells #[mv, av] 61 (0, 0))
  ne : h6 ≠ b
  hb : w0.heap.size ≤ b
  marks : MRow w w0.heap.size mv l ms
  arcs : w.ownsRow w0.heap.size 66 3 av ar.length (arcsL ar)

section
variable {w0 w w' : World} {hN h6 b : Nat} {p : Int} {a : Option Addr} {n c l : Nat} {mv av : Value} {ms : List (List Int)} {ar : List (Nat × Nat × Nat)}

theorem SeSt.go (h : SeSt w0 w hN h6 b p a n c l mv av ms ar) (hb : Below w.heap.size w w') : SeSt w0 w' hN h6 b p a n c l mv av ms ar :=
  ⟨h.bel.trans (hb.mono h.bel.size), keep h.net hb, keep h.res hb, keep h.st hb, h.ne, h.hb, h.marks.go hb, ownsRow_kept h.arcs fun g hg => hb.block g (own_lt h.arcs hg).2⟩

/-- A mark more. -/
theorem SeSt.mark (h : SeSt w0 w hN h6 b p a n c l mv av ms ar) {cs : List Value} (hcs : w.ownsRow w0.heap.size 31 1 mv ms.length cs) (hms : ∀ i, i < ms.length → ∃ g c, cs[i]? = some (.slice (some ⟨g, 0, none⟩) l c) ∧ OutR w g l (ms.getD i []))
    (hg : w.grownBy w' mv.ownBlock) {v : Value} {g gc : Nat} {m : List Int} (hown : w'.ownsRow w0.heap.size 31 1 v (ms.length + 1) (cs ++ [.slice (some ⟨g, 0, none⟩) l gc])) (hm : OutR w g l m) :
    SeSt w0 (w'.setCell ⟨b, 0, none⟩ v) hN h6 b p a n c l v av (ms ++ [m]) ar ∧ Turn3 w (w'.setCell ⟨b, 0, none⟩ v) := by
  have hbl := row_lt h.st
  have nm : ∀ (g' : Nat) (C : Array Value) (T : TypeId), w.heap[g']? = some (Obj.cells C T (0, 0)) → T ≠ 31 → mv.ownBlock ≠ some g' := fun g' C T h1 h2 e => by
    obtain ⟨cur, hc⟩ := own_ty hcs e
    rw [hc] at h1
    simp at h1
    exact h2 h1.2.symm
  have far : ∀ (g' : Nat) (C : Array Value) (T : TypeId), w.heap[g']? = some (Obj.cells C T (0, 0)) → T ≠ 31 → g' ≠ b → (w'.setCell ⟨b, 0, none⟩ v).heap[g']? = w.heap[g']? := fun g' C T h1 h2 h3 =>
    (Below.heap_setCell _ _ _ _ h3).trans (hg.block g' (row_lt h1) (fun e => nm g' C T h1 h2 e.symm))
  have hT : Turn3 w (w'.setCell ⟨b, 0, none⟩ v) := by
    refine ⟨by rw [size_setCell]; exact hg.size, fun g' C h1 => far g' C _ h1 (by decide) (fun e => ?_)⟩
    subst e; rw [h.st] at h1; simp at h1
  have hst := (hg.block b hbl (fun e => nm b _ _ h.st (by decide) e.symm)).trans h.st
  refine ⟨⟨?_, (far hN _ _ h.net (by decide) fun e => ?_).trans h.net, (far h6 _ _ h.res (by decide) h.ne).trans h.res, ?_, h.ne, h.hb, ?_, ?_⟩, hT⟩
  · exact (h.bel.grown hg h.bel.size fun k hk => (own_lt hcs hk).1).setCell h.hb _
  · subst e; have := h.net; rw [h.st] at this; simp at this
  · rw [heap_setCell_same w' b 0 _ _ v hst]; rfl
  · refine ⟨cs ++ [.slice (some ⟨g, 0, none⟩) l gc], ?_, fun i hi => ?_⟩
    · rw [List.length_append]
      refine ownsRow_kept hown fun g' hg' => Below.heap_setCell _ _ _ _ fun e => ?_
      subst e
      obtain ⟨cur, hc⟩ := own_ty hown hg'
      rw [hst] at hc; simp at hc
    · have hcl : cs.length = ms.length := by have := hcs.1; omega
      by_cases hi2 : i < ms.length
      · obtain ⟨g2, c2, e1, e2⟩ := hms i hi2
        refine ⟨g2, c2, by rw [List.getElem?_append_left (by omega)]; exact e1, ?_⟩
        rw [List.getD_eq_getElem?_getD, List.getElem?_append_left hi2, ← List.getD_eq_getElem?_getD]
        exact e2.turn hT
      · rw [List.length_append, List.length_singleton] at hi
        have : i = ms.length := by omega
        subst this
        refine ⟨g, gc, by rw [List.getElem?_append_right (by omega), hcl]; simp, ?_⟩
        rw [List.getD_eq_getElem?_getD, List.getElem?_append_right (Nat.le_refl _)]
        simp
        exact hm.turn hT
  · refine ownsRow_kept h.arcs fun g' hg' => ?_
    obtain ⟨cur, hc⟩ := own_ty h.arcs hg'
    refine far g' _ _ hc (by decide) fun e => ?_
    subst e; rw [h.st] at hc; simp at hc

/-- An arc more. -/
theorem SeSt.arc (h : SeSt w0 w hN h6 b p a n c l mv av ms ar) (hg : w.grownBy w' av.ownBlock) {v : Value} {ar' : List (Nat × Nat × Nat)} (hown : w'.ownsRow w0.heap.size 66 3 v ar'.length (arcsL ar')) :
    SeSt w0 (w'.setCell ⟨b, 1, none⟩ v) hN h6 b p a n c l mv v ms ar' ∧ Turn3 w (w'.setCell ⟨b, 1, none⟩ v) := by
  have hbl := row_lt h.st
  have nm : ∀ (g' : Nat) (C : Array Value) (T : TypeId), w.heap[g']? = some (Obj.cells C T (0, 0)) → T ≠ 66 → av.ownBlock ≠ some g' := fun g' C T h1 h2 e => by
    obtain ⟨cur, hc⟩ := own_ty h.arcs e
    rw [hc] at h1
    simp at h1
    exact h2 h1.2.symm
  have far : ∀ (g' : Nat) (C : Array Value) (T : TypeId), w.heap[g']? = some (Obj.cells C T (0, 0)) → T ≠ 66 → g' ≠ b → (w'.setCell ⟨b, 1, none⟩ v).heap[g']? = w.heap[g']? := fun g' C T h1 h2 h3 =>
    (Below.heap_setCell _ _ _ _ h3).trans (hg.block g' (row_lt h1) (fun e => nm g' C T h1 h2 e.symm))
  have hT : Turn3 w (w'.setCell ⟨b, 1, none⟩ v) := by
    refine ⟨by rw [size_setCell]; exact hg.size, fun g' C h1 => far g' C _ h1 (by decide) (fun e => ?_)⟩
    subst e; rw [h.st] at h1; simp at h1
  have hst := (hg.block b hbl (fun e => nm b _ _ h.st (by decide) e.symm)).trans h.st
  refine ⟨⟨?_, (far hN _ _ h.net (by decide) fun e => ?_).trans h.net, (far h6 _ _ h.res (by decide) h.ne).trans h.res, ?_, h.ne, h.hb, ?_, ?_⟩, hT⟩
  · exact (h.bel.grown hg h.bel.size fun k hk => (own_lt h.arcs hk).1).setCell h.hb _
  · subst e; have := h.net; rw [h.st] at this; simp at this
  · rw [heap_setCell_same w' b 1 _ _ v hst]; rfl
  · refine h.marks.kept hT fun g' hg' => ?_
    obtain ⟨cs, h1, _⟩ := h.marks
    obtain ⟨cur, hc⟩ := own_ty h1 hg'
    refine far g' _ _ hc (by decide) fun e => ?_
    subst e; rw [h.st] at hc; simp at hc
  · refine ownsRow_kept hown fun g' hg' => Below.heap_setCell _ _ _ _ fun e => ?_
    subst e
    obtain ⟨cur, hc⟩ := own_ty hown hg'
    rw [hst] at hc; simp at hc
end

end Go.Proofs.Ytdhnhpjcoeglmaa


/- The specification's l4Explore, walked whole. -/
namespace Go.Proofs.Ytdhnhpjcoeglmaa
open Go.RowKit
set_option maxRecDepth 10000

/-- Numbers as cells. -/
def intsV (ts : List Nat) : List Value := ts.map fun (t : Nat) => Value.int .i64 (t : Int)

/-- How l4Explore ends. -/
def ExEnd (p : Int) (n l Bg : Nat) (R : Except Nat Sea) (w : World) (e : Ending) (w' : World) : Prop :=
  Below w.heap.size w w' ∧
  match R with
  | .ok s => SeaOk p n Bg s ∧ s.ar.length ≤ 9600 ∧ ∃ mv av, e = .returned (.tuple #[.agg #[mv, av], .int .i64 1]) ∧ MRow w' w.heap.size mv l s.ms ∧ w'.ownsRow w.heap.size 66 3 av s.ar.length (arcsL s.ar)
  | .error c => e = .returned (.tuple #[.agg #[.slice none 0 0, .slice none 0 0], .int .i64 (c : Int)]) ∧ (c = 2 ∨ c = 3)

theorem exEnd_err {p : Int} {n l Bg : Nat} {R : Except Nat Sea} {w w' : World} {c : Nat} {z : Int} (hR : R = .error c) (hc : c = 2 ∨ c = 3) (hz : (c : Int) = z) (hb : Below w.heap.size w w') : ExEnd p n l Bg R w (.returned (.tuple #[.agg #[.slice none 0 0, .slice none 0 0], .int .i64 z])) w' := by
  subst hR hz; exact ⟨hb, rfl, hc⟩

/-- What the outer loop keeps in mind. -/
structure SeOut (w0 w : World) (hN h6 b : Nat) (p : Int) (a : Option Addr) (n c l Bg : Nat) (L : List (List Int)) (k : Nat) (R : Except Nat Sea) (s : Sea) (mv av : Value) : Prop where
  ok : SeaOk p n Bg s
  hk : k ≤ s.ms.length
  sea : seaS p n L Bg (Bg - k) k s = R
  st : SeSt w0 w hN h6 b p a n c l mv av s.ms s.ar
  len : s.ar.length ≤ k * n

/-- What the inner loop keeps in mind. -/
structure SeIn (w0 w : World) (hN h6 b : Nat) (p : Int) (a : Option Addr) (n c l Bg : Nat) (L : List (List Int)) (k A i : Nat) (m : List Int) (ts : List Nat) (R1 : Except Nat Sea) (s : Sea) (mv av ev : Value) (eb : Nat) : Prop where
  ok : SeaOk p n Bg s
  hk : k < s.ms.length
  at_ : s.ms.getD k [] = m
  row : rowS p L Bg m k (ts.drop i) s = R1
  st : SeSt w0 w hN h6 b p a n c l mv av s.ms s.ar
  len : s.ar.length ≤ A + i
  ens : w.ownsRow eb 3 1 ev ts.length (intsV ts)

theorem SeIn.go {w0 w w' : World} {hN h6 b : Nat} {p : Int} {a : Option Addr} {n c l Bg : Nat} {L : List (List Int)} {k A i : Nat} {m : List Int} {ts : List Nat} {R1 : Except Nat Sea} {s : Sea} {mv av ev : Value} {eb : Nat} (h : SeIn w0 w hN h6 b p a n c l Bg L k A i m ts R1 s mv av ev eb) (hb : Below w.heap.size w w') : SeIn w0 w' hN h6 b p a n c l Bg L k A i m ts R1 s mv av ev eb :=
  ⟨h.ok, h.hk, h.at_, h.row, h.st.go hb, h.len, own_turn h.ens (Turn3.of_below hb)⟩

/-- An arc more, and maybe a mark. -/
theorem SeIn.step {w0 w w' : World} {hN h6 b : Nat} {p : Int} {a : Option Addr} {n c l Bg : Nat} {L : List (List Int)} {k A i t : Nat} {m : List Int} {ts : List Nat} {R1 : Except Nat Sea} {s : Sea} {mv av mv2 av2 ev : Value} {eb j : Nat} {ms2 : List (List Int)} (h : SeIn w0 w hN h6 b p a n c l Bg L k A i m ts R1 s mv av ev eb)
    (hd : ts.drop i = t :: ts.drop (i + 1)) (ht : t < n) (hc : canT L m t = true) (h1 : oneS p L Bg m k t s = .ok ⟨ms2, s.ar ++ [(k, t, j)]⟩) (hst : SeSt w0 w' hN h6 b p a n c l mv2 av2 ms2 (s.ar ++ [(k, t, j)])) (hens : w'.ownsRow eb 3 1 ev ts.length (intsV ts)) :
    SeIn w0 w' hN h6 b p a n c l Bg L k A (i + 1) m ts R1 ⟨ms2, s.ar ++ [(k, t, j)]⟩ mv2 av2 ev eb := by
  obtain ⟨a1, a2, a3⟩ := oneS_ok h.ok h.hk ht h1
  have hr := h.row
  rw [hd] at hr
  refine ⟨a1, Nat.lt_of_lt_of_le h.hk a3.length_le, (prefix_getD a3 h.hk []).trans h.at_, ?_, hst, by have := h.len; simp; omega, hens⟩
  unfold rowS at hr; rw [if_pos hc, h1] at hr; exact hr

theorem SeIn.bad {w0 w : World} {hN h6 b : Nat} {p : Int} {a : Option Addr} {n c l Bg : Nat} {L : List (List Int)} {k A i t cd : Nat} {m : List Int} {ts : List Nat} {R1 : Except Nat Sea} {s : Sea} {mv av ev : Value} {eb : Nat} (h : SeIn w0 w hN h6 b p a n c l Bg L k A i m ts R1 s mv av ev eb)
    (hd : ts.drop i = t :: ts.drop (i + 1)) (hc : canT L m t = true) (h1 : oneS p L Bg m k t s = .error cd) : R1 = .error cd := by
  have hr := h.row
  rw [hd] at hr
  unfold rowS at hr; rw [if_pos hc, h1] at hr; exact hr.symm

/-- The transitions that are enabled. -/
def enT (L : List (List Int)) (n : Nat) (m : List Int) : List Nat := (List.range n).filter (canT L m)

theorem enT_nums (L : List (List Int)) (n : Nat) (m : List Int) : (numsL (fun i => canB (L.getD (3 * i) []) m) n).map (Value.int .i64) = intsV (enT L n m) := by
  unfold numsL enT canT intsV
  rw [List.map_map]; rfl

theorem enT_len (L : List (List Int)) (n : Nat) (m : List Int) : (enT L n m).length ≤ n := by
  unfold enT
  have := List.length_filter_le (canT L m) (List.range n)
  rw [List.length_range] at this
  exact this

theorem enT_at {L : List (List Int)} {n : Nat} {m : List Int} {i : Nat} (hi : i < (enT L n m).length) : ∃ t, (enT L n m)[i]? = some t ∧ t < n ∧ canT L m t = true ∧ (enT L n m).drop i = t :: (enT L n m).drop (i + 1) := by
  refine ⟨(enT L n m)[i], List.getElem?_eq_getElem hi, ?_, ?_, List.drop_eq_getElem_cons hi⟩
  · have hm : (enT L n m)[i] ∈ (List.range n).filter (canT L m) := List.getElem_mem hi
    exact List.mem_range.1 (List.mem_filter.1 hm).1
  · have hm : (enT L n m)[i] ∈ (List.range n).filter (canT L m) := List.getElem_mem hi
    exact (List.mem_filter.1 hm).2

theorem rowS_cons_yes {p : Int} {B : Nat} {L : List (List Int)} {m : List Int} {k t : Nat} {ts : List Nat} {s s' : Sea} {R : Except Nat Sea} (hR : rowS p L B m k (t :: ts) s = R) (hc : canT L m t = true) (h1 : oneS p L B m k t s = .ok s') : rowS p L B m k ts s' = R := by
  unfold rowS at hR; rw [if_pos hc, h1] at hR; exact hR
theorem rowS_cons_bad {p : Int} {B : Nat} {L : List (List Int)} {m : List Int} {k t c : Nat} {ts : List Nat} {s : Sea} {R : Except Nat Sea} (hR : rowS p L B m k (t :: ts) s = R) (hc : canT L m t = true) (h1 : oneS p L B m k t s = .error c) : R = .error c := by
  unfold rowS at hR; rw [if_pos hc, h1] at hR; exact hR.symm

theorem Try.infoSl : (Try.prog.info? 31).map (fun i => (i.zero, i.size, i.bytes)) = some (some (.slice none 0 0), 1, 24) := by kernel_rfl

theorem size_space : (Try.prog.info? 61).map (·.size) = some 2 := by kernel_rfl

theorem space_res2 {fn : Func} {q u : Tmp} (hr : fn.results = #[.cell q 61, .tmp u]) (tmps : Array Value) (W : World) (b : Nat) (C : Array Value) (v : Value) (h4 : tmps.getD q undef = .pointer (some ⟨b, 0, none⟩)) (h5 : tmps.getD u undef = v)
    (hs : C.size = 2) (q4 : W.heap[b]? = some (.cells C 61 (0, 0))) : (results fn tmps).run Try.prog W = .ok (.tuple #[.agg C, v]) W := by
  refine (results_cell_tmp hr _ _ _).trans ?_
  rw [h4, h5]
  show ((loadVar 61 ⟨b, 0, none⟩).run Try.prog _).andThen _ = _
  rw [run_loadVar_row _ _ 61 61 C (0, 0) _ q4 Try.underlying61 rfl (by rw [hs]; exact size_space)]
  rfl

/-- The answer's own cells are written. -/
theorem SeSt.ret {w0 w : World} {hN h6 b : Nat} {p : Int} {a : Option Addr} {n c l : Nat} {mv av : Value} {ms : List (List Int)} {ar : List (Nat × Nat × Nat)} (h : SeSt w0 w hN h6 b p a n c l mv av ms ar) (h6l : w0.heap.size ≤ h6) (C : Array Value) :
    Below w0.heap.size w0 (w.setRow h6 C) ∧ MRow (w.setRow h6 C) w0.heap.size mv l ms ∧ (w.setRow h6 C).ownsRow w0.heap.size 66 3 av ar.length (arcsL ar) := by
  have oth : ∀ (g : Nat) (D : Array Value) (T : TypeId), w.heap[g]? = some (Obj.cells D T (0, 0)) → T ≠ 61 → (w.setRow h6 C).heap[g]? = w.heap[g]? := fun g D T h1 h2 => setRow_other _ _ _ _ (fun e => by
    subst e; have := h.res; rw [h1] at this; simp at this; exact h2 this.2)
  refine ⟨below_setRow h.bel _ h6l _, h.marks.kept ⟨by simp [World.setRow], fun g D h1 => oth g D _ h1 (by decide)⟩ fun g hg => ?_, ownsRow_kept h.arcs fun g hg => ?_⟩
  · obtain ⟨cs, h1, _⟩ := h.marks
    obtain ⟨cur, hc⟩ := own_ty h1 hg
    exact oth g _ _ hc (by decide)
  · obtain ⟨cur, hc⟩ := own_ty h.arcs hg
    exact oth g _ _ hc (by decide)

theorem ens_at {w : World} {eb : Nat} {ev : Value} {ts : List Nat} (h : w.ownsRow eb 3 1 ev ts.length (intsV ts)) {i : Nat} (hi : i < ts.length) {t : Nat} (ht : ts[i]? = some t) :
    ∃ g c, ev = .slice (some ⟨g, 0, none⟩) ts.length c ∧ w.cell? ⟨g, i, none⟩ = some (.int .i64 (t : Int)) := by
  obtain ⟨g, c, rfl, _, _⟩ := h.form (by omega)
  exact ⟨g, c, rfl, by rw [h.cellAt i (by omega)]; unfold intsV; rw [List.getElem?_map, ht]; rfl⟩


set_option maxHeartbeats 1000000 in
theorem exploreS_any (p : Int) (a : Option Addr) (bm om n c l cm Bg : Nat) (L : List (List Int)) (m0 : List Int) (w : World) (h : Lists w a (3 * n) L) (rm : Row w (some ⟨bm, om, none⟩) l m0) (hs : sizeN n L ≤ 1048576) (hnet : netOk p n L = true) (hg : goodB p m0 = true) (hl : (l : Int) = p) (hB1 : 1 ≤ Bg) (hB4 : Bg ≤ 400) :
    Calls Try.prog 118 #[.agg #[.int .i64 p, .slice a n c], .slice (some ⟨bm, om, none⟩) l cm, .int .i64 (Bg : Int)] w fun e w' => ExEnd p n l Bg (searchS p n L Bg m0) w e w' := by
  obtain ⟨⟨hp1, hp2⟩, hyl, hyb⟩ := goodB_parts hg
  have hn24 := netOkN hnet
  have hl16 : l ≤ 16 := by omega
  have hmx : l ≤ maxLen := by unfold maxLen; omega
  obtain ⟨R, hR⟩ : ∃ R, Hid (searchS p n L Bg m0 = R) := ⟨_, rfl⟩
  rw [hR.out]
  have hA1 := below_al w (.cells #[.int .i64 p, .slice a n c] 26)
  have hA2 := below_al (w.alloc (.cells #[.int .i64 p, .slice a n c] 26)) (.cells #[.slice none 0 0, .slice none 0 0] 61)
  have hAA := hA1.trans (hA2.mono hA1.size)
  have HN0 := hide (keep (heap_alloc_new w (.cells #[.int .i64 p, .slice a n c] 26)) hA2)
  have hz1 : (w.alloc (.cells #[.int .i64 p, .slice a n c] 26)).heap.size = w.heap.size + 1 := by simp
  have HR0 := heap_alloc_new (w.alloc (.cells #[.int .i64 p, .slice a n c] 26)) (.cells #[.slice none 0 0, .slice none 0 0] 61)
  rw [hz1] at HR0
  have HR0 := hide HR0
  have HO := hide (own_any bm om l cm m0 _ (rm.below hAA) (by omega))
  have HL := hide h
  have HB0 := hide hAA
  have HNET := hide hnet
  have HG := hide hg
  clear h rm hA1 hA2 hAA hz1 hnet hg hyb
  go_enter Try.func118, Try.ntmps118
  go_wp2_with fail
  generalize (w.alloc (.cells #[.int .i64 p, .slice a n c] 26)).alloc (.cells #[.slice none 0 0, .slice none 0 0] 61) = v0 at *
  refine HO.out.mono ?_
  rintro e w1 ⟨g0, c0, rfl, hg0, hc0, hout, hb1⟩
  have hA3 := below_al w1 (.cells #[.slice (some ⟨g0, 0, none⟩) l c0] 31)
  have hA4 := below_al (w1.alloc (.cells #[.slice (some ⟨g0, 0, none⟩) l c0] 31)) (.cells #[.slice (some ⟨w1.heap.size, 0, none⟩) 1 1, .slice none 0 0] 61)
  have hz2 : (w1.alloc (.cells #[.slice (some ⟨g0, 0, none⟩) l c0] 31)).heap.size = w1.heap.size + 1 := by simp
  have hAB := hb1.trans ((hA3.trans (hA4.mono hA3.size)).mono hb1.size)
  have HST : Hid (SeSt w ((w1.alloc (.cells #[.slice (some ⟨g0, 0, none⟩) l c0] 31)).alloc (.cells #[.slice (some ⟨w1.heap.size, 0, none⟩) 1 1, .slice none 0 0] 61)) w.heap.size (w.heap.size + 1) (w1.heap.size + 1) p a n c l (.slice (some ⟨w1.heap.size, 0, none⟩) 1 1) (.slice none 0 0) [m0] []) := by
    have hv0 := row_lt HR0.out
    have hs1 := hb1.size
    have hs0 := HB0.out.size
    have hnb := heap_alloc_new (w1.alloc (.cells #[.slice (some ⟨g0, 0, none⟩) l c0] 31)) (.cells #[.slice (some ⟨w1.heap.size, 0, none⟩) 1 1, .slice none 0 0] 61)
    rw [hz2] at hnb
    refine ⟨HB0.out.trans (hAB.mono HB0.out.size), keep HN0.out hAB, keep HR0.out hAB, hnb, by omega, by omega, ⟨[.slice (some ⟨g0, 0, none⟩) l c0], ⟨rfl, .inr ⟨w1.heap.size, 1, _, rfl, by omega, keep (heap_alloc_new w1 _) hA4, by simp, by decide, rfl, rfl⟩⟩, fun i hi => ?_⟩, World.ownsRow_nil _ _ _ _⟩
    simp at hi
    subst hi
    exact ⟨g0, c0, rfl, (hout.grow hA3).grow hA4⟩
  clear hA3 hA4 hAB HO hz2
  go_wp2_with fail
  generalize (w1.alloc (.cells #[.slice (some ⟨g0, 0, none⟩) l c0] 31)).alloc (.cells #[.slice (some ⟨w1.heap.size, 0, none⟩) 1 1, .slice none 0 0] 61) = v1 at *
  have HOUT := hide (show SeOut w v1 w.heap.size (w.heap.size + 1) (w1.heap.size + 1) p a n c l Bg L 0 R (sea0 m0) _ _ from ⟨SeaOk.start hB1 HG.out, by simp, by rw [Nat.sub_zero]; exact hR.out, HST.out, by simp [sea0]⟩)
  obtain ⟨b, hbb⟩ : ∃ b, Hid (w1.heap.size + 1 = b) := ⟨_, rfl⟩
  rw [hbb.out] at HOUT ⊢
  clear HST hb1 hout HN0 HR0
  go_loopw [9] (fun i wr => ∃ (k : Nat) (s : Sea) (mv av : Value), i = .int .i64 (k : Int) ∧ Hid (SeOut w wr w.heap.size (w.heap.size + 1) b p a n c l Bg L k R s mv av)) (fun i _ => Bg - (intOf i).toNat)
  case atStart => exact ⟨0, _, _, _, rfl, HOUT⟩
  case round =>
    clear HOUT
    obtain ⟨k, s, mv, av, rfl, ho⟩ := hrel
    obtain ⟨ma, mc, hmf⟩ := ho.out.st.marks.form
    obtain ⟨aa, ac, haf⟩ := own_form ho.out.st.arcs
    subst hmf haf
    obtain ⟨hs0, hs1⟩ := cells2 ho.out.st.st
    have hle := ho.out.ok.le
    have hkl := ho.out.hk
    have hm4 : ((s.ms.length : Nat) : Int) ≤ 400 := by omega
    have hk4 : (k : Int) ≤ 400 := by omega
    have hkn : k * n ≤ 9600 := by
      have : k * n ≤ 400 * 24 := Nat.mul_le_mul (by omega) hn24
      omega
    by_cases hlt : k < s.ms.length
    rotate_left
    · have hres := ho.out.st.res
      obtain ⟨r1, r2, r3⟩ := ho.out.st.ret (Nat.le_succ _) #[.slice ma s.ms.length mc, .slice aa s.ar.length ac]
      have hrr := setRow_same hres #[.slice ma s.ms.length mc, .slice aa s.ar.length ac]
      have HFIN : Hid (ExEnd p n l Bg R w (.returned (.tuple #[.agg #[.slice ma s.ms.length mc, .slice aa s.ar.length ac], .int .i64 1])) (wr.setRow (w.heap.size + 1) #[.slice ma s.ms.length mc, .slice aa s.ar.length ac])) := by
        have hRs := ho.out.sea.symm.trans (seaS_done hlt)
        rw [hRs]
        exact ⟨r1, ho.out.ok, by have := ho.out.len; omega, _, _, rfl, r2, r3⟩
      have hki : ¬ (k : Int) < ((s.ms.length : Nat) : Int) := by omega
      clear ho r1 r2 r3
      go_wp2_with ((show wpList _ _ _ (⟨none, .store 61 (.tmp 6) (.tmp 89), _, _, _, _⟩ :: _) _ _); refine wpList_store_row rfl 61 _ _ rfl _ _ rfl rfl 61 _ hres size_space rfl (one2 rfl rfl) ?_)
      refine bodyPost_ret (v := .tuple #[.agg #[.slice ma s.ms.length mc, .slice aa s.ar.length ac], .int .i64 1]) ?_ rfl HFIN.out
      exact space_res2 Try.results118 _ _ (w.heap.size + 1) _ _ rfl rfl rfl hrr
    have hki : (k : Int) < ((s.ms.length : Nat) : Int) := by omega
    obtain ⟨m, hmq⟩ : ∃ m, Hid (s.ms.getD k [] = m) := ⟨_, rfl⟩
    have hgm := ho.out.ok.goodAt hlt
    rw [hmq.out] at hgm
    obtain ⟨mb, mg, mgc, rfl, hmb, hmc, hmr⟩ := ho.out.st.marks.at_ hlt
    rw [hmq.out] at hmr
    obtain ⟨hn0, hn1⟩ := cells2 ho.out.st.net
    have hk0 : (0 : Int) ≤ (k : Int) := by omega
    go_upto_region 5 with fail
    have HO2 : Hid (SeOut w wr.drew w.heap.size (w.heap.size + 1) b p a n c l Bg L k R s (.slice (some ⟨mb, 0, none⟩) s.ms.length mc) (.slice aa s.ar.length ac)) := ⟨ho.out.ok, ho.out.hk, ho.out.sea, ho.out.st.go (Below.refl _ _).drew, ho.out.len⟩
    have HMR : Hid (OutR wr.drew mg l m) := hmr.grow (Below.refl _ _).drew
    have HMC : Hid (wr.drew.cell? ⟨mb, k, none⟩ = some (.slice (some ⟨mg, 0, none⟩) l mgc)) := hmc
    have HMB : Hid (mb < wr.drew.heap.size) := hmb
    refine wp_region_held_drew (S := fun W => W.cell? ⟨w.heap.size, 0, none⟩ = some (.int .i64 p) ∧ W.cell? ⟨w.heap.size, 1, none⟩ = some (.slice a n c) ∧ W.cell? ⟨b, 0, none⟩ = some (.slice (some ⟨mb, 0, none⟩) s.ms.length mc) ∧ W.cell? ⟨mb, k, none⟩ = some (.slice (some ⟨mg, 0, none⟩) l mgc)) (by kernel_rfl) ?_ (fun hHeld => ?_)
    · exact ⟨hn0, hn1, hs0, hmc⟩
    clear ho hn0 hn1 hs0 hs1 hmr hmc hmb
    generalize wr.drew = v2 at *
    refine take_yes (i := 0) (some 25) (.agg #[.int .i64 p, .slice a n c]) rfl rfl (by kernel_rfl) (by kernel_rfl) (by kernel_rfl) (fun _ _ _ h => h) (by rfl) ?_ (by assumption) ?_
    · intro W' hSw
      obtain ⟨hz0, hz1, hz2, hz3⟩ := hSw
      go_simp
    simp only [Act.put, List.setIfInBounds_toArray, List.set_cons_zero, List.set_cons_succ]
    refine take_yes (i := 1) (some 26) (.pointer (some ⟨b, 0, none⟩)) rfl rfl (by kernel_rfl) (by kernel_rfl) (by kernel_rfl) (fun _ _ _ h => h) (by rfl) ?_ (by assumption) ?_
    · intro W' hSw
      go_simp
    simp only [Act.put, List.setIfInBounds_toArray, List.set_cons_zero, List.set_cons_succ]
    refine take_yes (i := 2) (some 27) (.slice (some ⟨mb, 0, none⟩) s.ms.length mc) rfl rfl (by kernel_rfl) (by kernel_rfl) (by kernel_rfl) (fun _ _ _ h => h) (by rfl) ?_ (by assumption) ?_
    · intro W' hSw
      obtain ⟨hz0, hz1, hz2, hz3⟩ := hSw
      go_simp
    simp only [Act.put, List.setIfInBounds_toArray, List.set_cons_zero, List.set_cons_succ]
    refine take_yes (i := 3) (some 28) (.int .i64 (k : Int)) rfl rfl (by kernel_rfl) (by kernel_rfl) (by kernel_rfl) (fun _ _ _ h => h) (by rfl) ?_ (by assumption) ?_
    · intro W' hSw
      go_simp
    simp only [Act.put, List.setIfInBounds_toArray, List.set_cons_zero, List.set_cons_succ]
    refine take_yes (i := 4) (some 29) (.pointer (some ⟨mb, k, none⟩)) rfl rfl (by kernel_rfl) (by kernel_rfl) (by kernel_rfl) (fun _ _ _ h => h) (by rfl) ?_ (by assumption) ?_
    · intro W' hSw
      go_simp
    simp only [Act.put, List.setIfInBounds_toArray, List.set_cons_zero, List.set_cons_succ]
    refine take_yes (i := 5) (some 30) (.slice (some ⟨mg, 0, none⟩) l mgc) rfl rfl (by kernel_rfl) (by kernel_rfl) (by kernel_rfl) (fun _ _ _ h => h) (by rfl) ?_ (by assumption) ?_
    · intro W' hSw
      obtain ⟨hz0, hz1, hz2, hz3⟩ := hSw
      go_simp
    simp only [Act.put, List.setIfInBounds_toArray, List.set_cons_zero, List.set_cons_succ]
    refine take_yes (i := 8) (some 33) (.int .i64 0) rfl rfl (by kernel_rfl) (by kernel_rfl) (by kernel_rfl) (fun _ _ _ h => h) (by rfl) ?_ (by assumption) ?_
    · intro W' hSw
      go_simp
    simp only [Act.put, List.setIfInBounds_toArray, List.set_cons_zero, List.set_cons_succ]
    have hin : ∀ k, k < n → ∀ x ∈ L.getD (3 * k) [], 0 ≤ x ∧ x < (l : Int) := fun k hk x hx => by
      have htri := tri_rise (triOkOf HNET.out hk)
      have := riseB_mem htri.1 x hx
      omega
    refine call_next (i := 6) (some 31) rfl rfl (by kernel_rfl) (by rfl) 159 _ _ _ rfl Try.func159 (by decide) rfl #[.agg #[.int .i64 p, .slice a n c], .slice (some ⟨mg, 0, none⟩) l mgc] (mapw2 _ _ _ _ _ rfl rfl) _ (enabledS_any p a (some ⟨mg, 0, none⟩) n c l mgc L m v2 (HL.out.below HO2.out.st.bel) HMR.out.row hs hn24 hin) ?_
    rintro e v3 ⟨ev, en, rfl, hown, hb3⟩
    rw [enT_nums] at hown
    have hen : en = (enT L n m).length := by have := hown.1; rw [Nat.mul_one] at this; rw [← this]; simp [intsV]
    subst hen
    obtain ⟨ea, ec, hef⟩ := own_form hown
    subst hef
    have HO3 : Hid (SeOut w v3 w.heap.size (w.heap.size + 1) b p a n c l Bg L k R s (.slice (some ⟨mb, 0, none⟩) s.ms.length mc) (.slice aa s.ar.length ac)) := ⟨HO2.out.ok, HO2.out.hk, HO2.out.sea, HO2.out.st.go hb3, HO2.out.len⟩
    have HMC3 := (hb3.cell (p := ⟨mb, k, none⟩) HMB.out).trans HMC.out
    obtain ⟨y0, y1⟩ := cells2 HO3.out.st.net
    obtain ⟨y2, y3⟩ := cells2 HO3.out.st.st
    refine ⟨_, rfl, ⟨y0, y1, y2, HMC3⟩, fun _ => ?_⟩
    simp only [Act.put, List.setIfInBounds_toArray, List.set_cons_zero, List.set_cons_succ]
    refine take_yes (i := 7) (some 32) (.int .i64 ((enT L n m).length : Int)) rfl rfl (by kernel_rfl) (by kernel_rfl) (by kernel_rfl) (fun _ _ _ h => h) (by rfl) ?_ (by assumption) ?_
    · intro W' hSw
      go_simp
    simp only [Act.put, List.setIfInBounds_toArray, List.set_cons_zero, List.set_cons_succ]
    refine wpAnyH_done (by kernel_rfl) ?_ _
    obtain ⟨R1, hR1⟩ : ∃ R1, Hid (rowS p L Bg m k (List.range n) s = R1) := ⟨_, rfl⟩
    have HIN := hide (show SeIn w v3 w.heap.size (w.heap.size + 1) b p a n c l Bg L k (k * n) 0 m (enT L n m) R1 s (.slice (some ⟨mb, 0, none⟩) s.ms.length mc) (.slice aa s.ar.length ac) (.slice ea (enT L n m).length ec) v2.heap.size from
      ⟨HO3.out.ok, hlt, hmq.out, by rw [List.drop_zero]; unfold enT; rw [rowS_filter]; exact hR1.out, HO3.out.st, HO3.out.len, hown⟩)
    have HSEA : Hid (∀ s', R1 = .ok s' → seaS p n L Bg (Bg - (k + 1)) (k + 1) s' = R) := fun s' h1 => seaS_row HO3.out.ok hlt HO3.out.sea (by rw [hmq.out]; exact hR1.out.trans h1)
    have HSER : Hid (∀ cd, R1 = .error cd → R = .error cd) := fun cd h1 => seaS_stop HO3.out.ok hlt HO3.out.sea (by rw [hmq.out]; exact hR1.out.trans h1)
    have HGM := hide hgm
    have hel := enT_len L n m
    have hel0 : (((enT L n m).length : Nat) : Int) ≤ 24 := by omega
    clear HO2 HO3 HMR HMC HMB HMC3 hown hHeld y0 y1 y2 y3 hb3 hR1 hgm hin
    go_wp2_with fail
    go_loopw [33] (fun iv wq => ∃ (i : Nat) (s' : Sea) (mv' av' : Value), i ≤ (enT L n m).length ∧ iv = .int .i64 (i : Int) ∧ Hid (SeIn w wq w.heap.size (w.heap.size + 1) b p a n c l Bg L k (k * n) i m (enT L n m) R1 s' mv' av' (.slice ea (enT L n m).length ec) v2.heap.size)) (fun iv _ => (enT L n m).length - (intOf iv).toNat)
    case atStart => exact ⟨0, s, _, _, Nat.zero_le _, rfl, HIN⟩
    case round =>
      clear HIN
      obtain ⟨i, s', mv', av', hi, rfl, hf⟩ := hrel
      have hle' := hf.out.ok.le
      have hm4' : ((s'.ms.length : Nat) : Int) ≤ 400 := by omega
      by_cases hil : i < (enT L n m).length
      rotate_left
      · have hii : ¬ (i : Int) < (((enT L n m).length : Nat) : Int) := by omega
        have hRs : R1 = .ok s' := by
          have := hf.out.row
          rw [List.drop_eq_nil_of_le (by omega)] at this
          exact this.symm
        have HNX := hide (show SeOut w wr w.heap.size (w.heap.size + 1) b p a n c l Bg L (k + 1) R s' mv' av' from
          ⟨hf.out.ok, hf.out.hk, HSEA.out s' hRs, hf.out.st, by rw [Nat.add_mul, Nat.one_mul]; have := hf.out.len; omega⟩)
        clear hf hRs
        go_wp2_with fail
        go_roundw
        case rel => exact ⟨k + 1, s', mv', av', by go_num, HNX⟩
        case measure => simp [intOf]; omega
      obtain ⟨t, ht, htn, hcan, hdrop⟩ := enT_at hil
      obtain ⟨eg, ec', hee, hec⟩ := ens_at hf.out.ens hil ht
      simp only [Value.slice.injEq] at hee
      obtain ⟨rfl, _, rfl⟩ := hee
      obtain ⟨ma', mc', hmf⟩ := hf.out.st.marks.form
      obtain ⟨aa', ac', haf⟩ := own_form hf.out.st.arcs
      subst hmf haf
      obtain ⟨hs0, hs1⟩ := cells2 hf.out.st.st
      obtain ⟨mb', mg', mgc', rfl, hmb, hmc, hmr⟩ := hf.out.st.marks.at_ hf.out.hk
      rw [hf.out.at_] at hmr
      obtain ⟨hn0, hn1⟩ := cells2 hf.out.st.net
      obtain ⟨tb, toff, a0, n0, e0, a1, n1, e1, a2, n2, e2, rfl, htb, htr, m0', m1', m2', r0, r1, r2⟩ := (HL.out.below hf.out.st.bel).tri htn
      obtain ⟨hd0, hd1, hd2⟩ := rangeAt_cells3 htr
      have htri := tri_rise (triOkOf HNET.out htn)
      have hq0 := len_le L (3 * t)
      have hq1 := len_le L (3 * t + 1)
      have hq2 := len_le L (3 * t + 2)
      have hsz : n + sizeL L ≤ 1048576 := hs
      have q0 : n0 ≤ 1048576 := by have := r0.1; omega
      have q1 : n1 ≤ 1048576 := by have := r1.1; omega
      have q2 : n2 ≤ 1048576 := by have := r2.1; omega
      have hii : (i : Int) < (((enT L n m).length : Nat) : Int) := by omega
      have hi0 : (0 : Int) ≤ (i : Int) := by omega
      have hti : (t : Int) < (n : Int) := by omega
      have ht0 : (0 : Int) ≤ (t : Int) := by omega
      have hki' : (k : Int) < ((s'.ms.length : Nat) : Int) := by have := hf.out.hk; omega
      obtain ⟨x0, hx0⟩ : ∃ x, Hid (L.getD (3 * t) [] = x) := ⟨_, rfl⟩
      obtain ⟨x1, hx1⟩ : ∃ x, Hid (L.getD (3 * t + 1) [] = x) := ⟨_, rfl⟩
      obtain ⟨x2, hx2⟩ : ∃ x, Hid (L.getD (3 * t + 2) [] = x) := ⟨_, rfl⟩
      rw [hx0.out] at r0 htri
      rw [hx1.out] at r1 htri
      rw [hx2.out] at r2 htri
      have HFT : Hid (fireL x0 x1 x2 m = fireT L m t) := by
        show _ = _
        unfold fireT firedL inOf outOf resOf; rw [Int.toNat_natCast, hx0.out, hx1.out, hx2.out]
      have HRR := hide (And.intro r0 (And.intro r1 r2))
      have HTRI := hide htri
      clear htr m0' m1' m2' r0 r1 r2 hq0 hq1 hq2 hx0 hx1 hx2 htri
      go_upto_region 8 with fail
      clear hec
      have HSN : Hid (SeIn w wr.drew w.heap.size (w.heap.size + 1) b p (some ⟨tb, toff, none⟩) n c l Bg L k (k * n) i m (enT L n m) R1 s' (.slice (some ⟨mb', 0, none⟩) s'.ms.length mc') (.slice aa' s'.ar.length ac') (.slice (some ⟨eg, 0, none⟩) (enT L n m).length ec) v2.heap.size) := hf.out.go (Below.refl _ _).drew
      have HMR : Hid (OutR wr.drew mg' l m) := hmr.grow (Below.refl _ _).drew
      have HR2 : Hid (Row wr.drew a0 n0 x0 ∧ Row wr.drew a1 n1 x1 ∧ Row wr.drew a2 n2 x2) := HRR.out
      refine wp_region_held_drew (S := fun W => W.cell? ⟨w.heap.size, 1, none⟩ = some (.slice (some ⟨tb, toff, none⟩) n c) ∧ W.cell? ⟨tb, toff + t * 3, none⟩ = some (.slice a0 n0 e0) ∧ W.cell? ⟨tb, toff + t * 3 + 1, none⟩ = some (.slice a1 n1 e1) ∧ W.cell? ⟨tb, toff + t * 3 + 2, none⟩ = some (.slice a2 n2 e2) ∧ W.cell? ⟨b, 0, none⟩ = some (.slice (some ⟨mb', 0, none⟩) s'.ms.length mc') ∧ W.cell? ⟨mb', k, none⟩ = some (.slice (some ⟨mg', 0, none⟩) l mgc')) (by kernel_rfl) ?_ (fun hHeld => ?_)
      · exact ⟨hn1, hd0, hd1, hd2, hs0, hmc⟩
      have hwb := hf.out.st.bel.size
      have HTB : Hid (tb < wr.drew.heap.size) := htb
      have HMB : Hid (mb' < wr.drew.heap.size) := hmb
      clear hf hn0 hn1 hs0 hs1 hmr hmc hmb hd0 hd1 hd2 htb HRR
      generalize wr.drew = v4 at *
      refine take_yes (i := 0) (some 37) (.pointer (some ⟨w.heap.size, 1, none⟩)) rfl rfl (by kernel_rfl) (by kernel_rfl) (by kernel_rfl) (fun _ _ _ h => h) (by rfl) ?_ (by assumption) ?_
      · intro W' hSw
        go_simp
      simp only [Act.put, List.setIfInBounds_toArray, List.set_cons_zero, List.set_cons_succ]
      refine take_yes (i := 1) (some 38) (.slice (some ⟨tb, toff, none⟩) n c) rfl rfl (by kernel_rfl) (by kernel_rfl) (by kernel_rfl) (fun _ _ _ h => h) (by rfl) ?_ (by assumption) ?_
      · intro W' hSw
        obtain ⟨hz0, hz1, hz2, hz3, hz4, hz5⟩ := hSw
        go_simp
      simp only [Act.put, List.setIfInBounds_toArray, List.set_cons_zero, List.set_cons_succ]
      refine take_yes (i := 2) (some 39) (.int .i64 (t : Int)) rfl rfl (by kernel_rfl) (by kernel_rfl) (by kernel_rfl) (fun _ _ _ h => h) (by rfl) ?_ (by assumption) ?_
      · intro W' hSw
        go_simp
      simp only [Act.put, List.setIfInBounds_toArray, List.set_cons_zero, List.set_cons_succ]
      refine take_yes (i := 3) (some 40) (.pointer (some ⟨tb, toff + t * 3, none⟩)) rfl rfl (by kernel_rfl) (by kernel_rfl) (by kernel_rfl) (fun _ _ _ h => h) (by rfl) ?_ (by assumption) ?_
      · intro W' hSw
        go_simp
      simp only [Act.put, List.setIfInBounds_toArray, List.set_cons_zero, List.set_cons_succ]
      refine take_yes (i := 4) (some 41) (.agg #[.slice a0 n0 e0, .slice a1 n1 e1, .slice a2 n2 e2]) rfl rfl (by kernel_rfl) (by kernel_rfl) (by kernel_rfl) (fun _ _ _ h => h) (by rfl) ?_ (by assumption) ?_
      · intro W' hSw
        obtain ⟨hz0, hz1, hz2, hz3, hz4, hz5⟩ := hSw
        go_simp
      simp only [Act.put, List.setIfInBounds_toArray, List.set_cons_zero, List.set_cons_succ]
      refine take_yes (i := 5) (some 42) (.pointer (some ⟨b, 0, none⟩)) rfl rfl (by kernel_rfl) (by kernel_rfl) (by kernel_rfl) (fun _ _ _ h => h) (by rfl) ?_ (by assumption) ?_
      · intro W' hSw
        go_simp
      simp only [Act.put, List.setIfInBounds_toArray, List.set_cons_zero, List.set_cons_succ]
      refine take_yes (i := 6) (some 43) (.slice (some ⟨mb', 0, none⟩) s'.ms.length mc') rfl rfl (by kernel_rfl) (by kernel_rfl) (by kernel_rfl) (fun _ _ _ h => h) (by rfl) ?_ (by assumption) ?_
      · intro W' hSw
        obtain ⟨hz0, hz1, hz2, hz3, hz4, hz5⟩ := hSw
        go_simp
      simp only [Act.put, List.setIfInBounds_toArray, List.set_cons_zero, List.set_cons_succ]
      refine take_yes (i := 7) (some 44) (.int .i64 (k : Int)) rfl rfl (by kernel_rfl) (by kernel_rfl) (by kernel_rfl) (fun _ _ _ h => h) (by rfl) ?_ (by assumption) ?_
      · intro W' hSw
        go_simp
      simp only [Act.put, List.setIfInBounds_toArray, List.set_cons_zero, List.set_cons_succ]
      refine take_yes (i := 8) (some 45) (.pointer (some ⟨mb', k, none⟩)) rfl rfl (by kernel_rfl) (by kernel_rfl) (by kernel_rfl) (fun _ _ _ h => h) (by rfl) ?_ (by assumption) ?_
      · intro W' hSw
        go_simp
      simp only [Act.put, List.setIfInBounds_toArray, List.set_cons_zero, List.set_cons_succ]
      refine take_yes (i := 9) (some 46) (.slice (some ⟨mg', 0, none⟩) l mgc') rfl rfl (by kernel_rfl) (by kernel_rfl) (by kernel_rfl) (fun _ _ _ h => h) (by rfl) ?_ (by assumption) ?_
      · intro W' hSw
        obtain ⟨hz0, hz1, hz2, hz3, hz4, hz5⟩ := hSw
        go_simp
      simp only [Act.put, List.setIfInBounds_toArray, List.set_cons_zero, List.set_cons_succ]
      refine call_next (i := 10) (some 47) rfl rfl (by kernel_rfl) (by rfl) 160 _ _ _ rfl Try.func160 (by decide) rfl #[.agg #[.slice a0 n0 e0, .slice a1 n1 e1, .slice a2 n2 e2], .slice (some ⟨mg', 0, none⟩) l mgc'] (mapw2 _ _ _ _ _ rfl rfl) _ (fireS_any a0 a1 a2 n0 n1 n2 e0 e1 e2 l mg' 0 mgc' x0 x1 x2 m v4 HR2.out.1 HR2.out.2.1 HR2.out.2.2 HMR.out.row q0 q1 q2 hl16 (by rw [hl]; exact HTRI.out.1) (by rw [hl]; exact HTRI.out.2.1) (by rw [hl]; exact HTRI.out.2.2) (goodB_parts HGM.out).2.2) ?_
      rintro e v5 ⟨fg, fc, rfl, hfg, hfo, hb5⟩
      rw [HFT.out] at hfo
      have HS5 := hide (HSN.out.go hb5)
      have hd5 : ∀ o, v5.cell? ⟨tb, o, none⟩ = v4.cell? ⟨tb, o, none⟩ := fun o => hb5.cell (p := ⟨tb, o, none⟩) HTB.out
      have hm5 : ∀ o, v5.cell? ⟨mb', o, none⟩ = v4.cell? ⟨mb', o, none⟩ := fun o => hb5.cell (p := ⟨mb', o, none⟩) HMB.out
      refine ⟨_, rfl, ⟨(cells2 HS5.out.st.net).2, (hd5 _).trans hHeld.2.1, (hd5 _).trans hHeld.2.2.1, (hd5 _).trans hHeld.2.2.2.1, (cells2 HS5.out.st.st).1, (hm5 _).trans hHeld.2.2.2.2.2⟩, fun _ => ?_⟩
      simp only [Act.put, List.setIfInBounds_toArray, List.set_cons_zero, List.set_cons_succ]
      refine take_yes (i := 11) (some 12) (.slice (some ⟨fg, 0, none⟩) l fc) rfl rfl (by kernel_rfl) (by kernel_rfl) (by kernel_rfl) (fun _ _ _ h => h) (by rfl) ?_ (by assumption) ?_
      · intro W' hSw
        go_simp
      simp only [Act.put, List.setIfInBounds_toArray, List.set_cons_zero, List.set_cons_succ]
      refine wpAnyH_done (by kernel_rfl) ?_ _
      have HFO := hide hfo
      clear hHeld HSN HMR HR2 HTB HMB hd5 hm5 hb5 hfo HTRI HFT
      obtain ⟨y0, y1⟩ := cells2 HS5.out.st.net
      obtain ⟨y2, y3⟩ := cells2 HS5.out.st.st
      have HGD := hide (goodS_any p (some ⟨fg, 0, none⟩) l fc (fireT L m t) v5 HFO.out.row (by omega))
      go_wp2_with fail
      refine HGD.out.mono ?_
      rintro e w' ⟨rfl, rfl⟩
      by_cases hgd : goodB p (fireT L m t) = true
      rotate_left
      · have hgd' : goodB p (fireT L m t) = false := by simpa using hgd
        rw [hgd']
        have hres := HS5.out.st.res
        have hrr := setRow_same hres #[.slice none 0 0, .slice none 0 0]
        have hbz := (HS5.out.st.ret (Nat.le_succ _) #[.slice none 0 0, .slice none 0 0]).1
        have HN := hide (exEnd_err (p := p) (n := n) (l := l) (Bg := Bg) (w := w) (HSER.out _ (HS5.out.bad hdrop hcan (oneS_no hgd'))) (by decide) (show ((3 : Nat) : Int) = 3 from rfl) hbz)
        clear hbz
        go_wp2_with ((show wpList _ _ _ (⟨none, .store 61 (.tmp 6) (.tmp 53), _, _, _, _⟩ :: _) _ _); refine wpList_store_row rfl 61 _ _ rfl _ _ rfl rfl 61 _ hres size_space rfl (one2 rfl rfl) ?_)
        refine bodyPost_ret (v := .tuple #[.agg #[.slice none 0 0, .slice none 0 0], .int .i64 3]) ?_ rfl HN.out
        exact space_res2 Try.results118 _ _ (w.heap.size + 1) _ _ rfl rfl rfl hrr
      rw [hgd]
      have HFI := hide (find_any (some ⟨mb', 0, none⟩) (some ⟨fg, 0, none⟩) s'.ms.length mc' l fc s'.ms (fireT L m t) w' (HS5.out.st.marks.lists hmx) HFO.out.row (by omega) (by omega))
      have hon : oneS p L Bg m k t s' = meetS Bg (fireT L m t) k t s' := oneS_good hgd
      have harl := HS5.out.len
      clear HGD hgd
      go_wp2_with fail
      refine HFI.out.mono ?_
      rintro e w'' ⟨rfl, q, rfl⟩
      have HS6 := hide (HS5.out.go (below_drewN' w' q))
      have HFO6 := hide (HFO.out.grow (below_drewN' w' q))
      clear HFI HFO y0 y1 y2 y3 HS5
      have HS5 := HS6
      clear HS6
      generalize w'.drewN q = v6 at *
      obtain ⟨y2, y3⟩ := cells2 HS5.out.st.st
      by_cases hmem : fireT L m t ∈ s'.ms
      · have hfl : findL s'.ms (fireT L m t) = ((s'.ms.idxOf (fireT L m t) : Nat) : Int) := by unfold findL; rw [if_pos hmem]
        have hjl := List.idxOf_lt_length_of_mem hmem
        obtain ⟨j, hj⟩ : ∃ j, Hid (s'.ms.idxOf (fireT L m t) = j) := ⟨_, rfl⟩
        rw [hj.out] at hfl hjl
        have HONE : Hid (oneS p L Bg m k t s' = .ok ⟨s'.ms, s'.ar ++ [(k, t, j)]⟩) := by
          show _ = _
          rw [hon]; unfold meetS; rw [if_pos hmem, hj.out]
        rw [hfl]
        have hj0 : ¬ ((j : Nat) : Int) < 0 := by omega
        have hj4 : ((j : Nat) : Int) ≤ 400 := by omega
        have HST5 := hide HS5.out.st
        have HEN5 := hide HS5.out.ens
        clear hmem hfl hon hjl hj
        obtain ⟨z0, z1⟩ := cells2 HST5.out.st
        have HA6 := hide (HST5.out.go (below_al v6 (.cells #[.int .i64 (k : Int), .int .i64 (t : Int), .int .i64 (j : Nat)] 66)))
        have HE6 := hide (own_turn HEN5.out (Turn3.of_below (below_al v6 (.cells #[.int .i64 (k : Int), .int .i64 (t : Int), .int .i64 (j : Nat)] 66))))
        have HNW := hide (World.news_of_block (heap_alloc_new v6 (.cells #[.int .i64 (k : Int), .int .i64 (t : Int), .int .i64 (j : Nat)] 66)))
        have hzz := HA6.out.bel.size
        obtain ⟨i2, hi2, hy0, hy1, hy2⟩ := info_split Try.infoA
        go_wp2_with (at_builtin; refine wpList_append_lies _ rfl (.tmp 80) (.tmp 85) 59 rfl w.heap.size 66 i2 _ 3 24 Try.underlying59 hi2 hy0 hy1 hy2 rfl (by decide) (.slice aa' s'.ar.length ac') s'.ar.length (arcsL s'.ar) rfl HA6.out.arcs ⟨v6.heap.size, 0, none⟩ 1 1 [.int .i64 (k : Int), .int .i64 (t : Int), .int .i64 (j : Nat)] rfl rfl HNW.out (by simp [Value.oneCell']) (by decide) (by unfold maxLen; omega) (by omega) hzz _ rfl ?_; intro g cp W' hown hgr hlies hglt; have hst := (hgr.block b (row_lt HA6.out.st) (fun e => by obtain ⟨cur, hcur⟩ := own_ty HA6.out.arcs e.symm; have := HA6.out.st; rw [hcur] at this; simp at this)).trans HA6.out.st; have hz4 : W'.cell? ⟨b, 1, none⟩ = some (.slice aa' s'.ar.length ac') := cell_of_row W' b 1 _ _ _ hst; have hz5 : W'.frozen? ⟨b, 1, none⟩ = false := frozen_of_row W' b 1 _ _ hst)
        obtain ⟨st1, st2⟩ := HA6.out.arc hgr (ar' := s'.ar ++ [(k, t, j)]) (by rw [List.length_append, arcsL_snoc]; exact hown)
        have HFF := hide (HS5.out.step hdrop htn hcan HONE.out st1 (own_turn HE6.out st2))
        clear hst hown hgr hlies hglt st1 st2 HS5 HST5 HA6 HEN5 HE6 HNW HONE z0 z1 hi2 hz4 hz5
        go_roundw
        case rel => exact ⟨i + 1, _, _, _, by omega, by go_num, HFF⟩
        case measure => simp [intOf]; omega
      · have hfl : findL s'.ms (fireT L m t) = -1 := by unfold findL; rw [if_neg hmem]
        rw [hfl]
        clear hfl
        by_cases hfull : s'.ms.length = Bg
        · have hfu : ((s'.ms.length : Nat) : Int) = (Bg : Int) := by omega
          have hbe : (((s'.ms.length : Nat) : Int) == (Bg : Int)) = true := by simpa using hfu
          have hbad : oneS p L Bg m k t s' = .error 2 := by rw [hon]; unfold meetS; rw [if_neg hmem, if_pos hfull]
          have hres := HS5.out.st.res
          have hrr := setRow_same hres #[.slice none 0 0, .slice none 0 0]
          have hbz := (HS5.out.st.ret (Nat.le_succ _) #[.slice none 0 0, .slice none 0 0]).1
          have HN := hide (exEnd_err (p := p) (n := n) (l := l) (Bg := Bg) (w := w) (HSER.out _ (HS5.out.bad hdrop hcan hbad)) (by decide) (show ((2 : Nat) : Int) = 2 from rfl) hbz)
          clear hbz
          go_wp2_with ((show wpList _ _ _ (⟨none, .store 61 (.tmp 6) (.tmp 67), _, _, _, _⟩ :: _) _ _); refine wpList_store_row rfl 61 _ _ rfl _ _ rfl rfl 61 _ hres size_space rfl (one2 rfl rfl) ?_)
          refine bodyPost_ret (v := .tuple #[.agg #[.slice none 0 0, .slice none 0 0], .int .i64 2]) ?_ rfl HN.out
          exact space_res2 Try.results118 _ _ (w.heap.size + 1) _ _ rfl rfl rfl hrr
        have hfu : ¬ ((s'.ms.length : Nat) : Int) = (Bg : Int) := by omega
        have hbe : (((s'.ms.length : Nat) : Int) == (Bg : Int)) = false := by simpa using hfu
        have HONE : Hid (oneS p L Bg m k t s' = .ok ⟨s'.ms ++ [fireT L m t], s'.ar ++ [(k, t, s'.ms.length)]⟩) := by
          show _ = _
          rw [hon]; unfold meetS; rw [if_neg hmem, if_neg hfull]
        clear hmem hon hfull
        have hjm : ((s'.ms.length : Nat) : Int) ≤ 400 := by omega
        obtain ⟨cs, hcs, hcm⟩ := HS5.out.st.marks
        have hAl := below_al v6 (.cells #[.slice (some ⟨fg, 0, none⟩) l fc] 31)
        have HX := hide (HS5.out.st.go hAl)
        have HCS : Hid ((v6.alloc (.cells #[.slice (some ⟨fg, 0, none⟩) l fc] 31)).ownsRow w.heap.size 31 1 (.slice (some ⟨mb', 0, none⟩) s'.ms.length mc') s'.ms.length cs) := ownsRow_kept hcs fun g hg => hAl.block g (own_lt hcs hg).2
        have HCM : Hid (∀ i, i < s'.ms.length → ∃ g c, cs[i]? = some (.slice (some ⟨g, 0, none⟩) l c) ∧ OutR (v6.alloc (.cells #[.slice (some ⟨fg, 0, none⟩) l fc] 31)) g l (s'.ms.getD i [])) := fun i hi => by
          obtain ⟨g, c, e1, e2⟩ := hcm i hi
          exact ⟨g, c, e1, e2.grow hAl⟩
        have HFO7 := hide (HFO6.out.grow hAl)
        have HEN6 := hide (own_turn HS5.out.ens (Turn3.of_below hAl))
        have HNX := hide (World.news_of_block (heap_alloc_new v6 (.cells #[.slice (some ⟨fg, 0, none⟩) l fc] 31)))
        have hzx := HX.out.bel.size
        obtain ⟨i3, hi3, hw0, hw1, hw2⟩ := info_split Try.infoSl
        clear hcs hcm hAl
        go_upto_region 17 with (at_builtin; refine wpList_append_lies _ rfl (.tmp 74) (.tmp 76) 52 rfl w.heap.size 31 i3 _ 1 24 Try.underlying52 hi3 hw0 hw1 hw2 rfl (by decide) (.slice (some ⟨mb', 0, none⟩) s'.ms.length mc') s'.ms.length cs rfl HCS.out ⟨v6.heap.size, 0, none⟩ 1 1 [.slice (some ⟨fg, 0, none⟩) l fc] rfl rfl HNX.out (by simp [Value.oneCell']) (by decide) (by unfold maxLen; omega) (by omega) hzx _ rfl ?_; intro gm cpm Wm hom hgm hlm hgl; have hsm := (hgm.block b (row_lt HX.out.st) (fun e => by obtain ⟨cur, hcur⟩ := own_ty HCS.out e.symm; have := HX.out.st; rw [hcur] at this; simp at this)).trans HX.out.st; have hw4 : Wm.cell? ⟨b, 0, none⟩ = some (.slice (some ⟨mb', 0, none⟩) s'.ms.length mc') := cell_of_row Wm b 0 _ _ _ hsm; have hw5 : Wm.frozen? ⟨b, 0, none⟩ = false := frozen_of_row Wm b 0 _ _ hsm)
        obtain ⟨su1, su2⟩ := HX.out.mark HCS.out HCM.out hgm hom HFO7.out
        have HST5 := hide su1
        have HEN5 := hide (own_turn HEN6.out su2)
        clear hom hgm hlm hgl hsm hw4 hw5 su1 su2 HX HCS HCM HFO7 HEN6 HNX hi3 y2 y3
        generalize Wm.setCell ⟨b, 0, none⟩ (.slice (some ⟨gm, 0, none⟩) (s'.ms.length + 1) cpm) = v7 at *
        obtain ⟨z0, z1⟩ := cells2 HST5.out.st
        have HA6 := hide (HST5.out.go (below_al v7 (.cells #[.int .i64 (k : Int), .int .i64 (t : Int), .int .i64 (s'.ms.length : Nat)] 66)))
        have HE6 := hide (own_turn HEN5.out (Turn3.of_below (below_al v7 (.cells #[.int .i64 (k : Int), .int .i64 (t : Int), .int .i64 (s'.ms.length : Nat)] 66))))
        have HNW := hide (World.news_of_block (heap_alloc_new v7 (.cells #[.int .i64 (k : Int), .int .i64 (t : Int), .int .i64 (s'.ms.length : Nat)] 66)))
        have hzz := HA6.out.bel.size
        obtain ⟨i2, hi2, hy0, hy1, hy2⟩ := info_split Try.infoA
        go_wp2_with (at_builtin; refine wpList_append_lies _ rfl (.tmp 80) (.tmp 85) 59 rfl w.heap.size 66 i2 _ 3 24 Try.underlying59 hi2 hy0 hy1 hy2 rfl (by decide) (.slice aa' s'.ar.length ac') s'.ar.length (arcsL s'.ar) rfl HA6.out.arcs ⟨v7.heap.size, 0, none⟩ 1 1 [.int .i64 (k : Int), .int .i64 (t : Int), .int .i64 (s'.ms.length : Nat)] rfl rfl HNW.out (by simp [Value.oneCell']) (by decide) (by unfold maxLen; omega) (by omega) hzz _ rfl ?_; intro g cp W' hown hgr hlies hglt; have hst := (hgr.block b (row_lt HA6.out.st) (fun e => by obtain ⟨cur, hcur⟩ := own_ty HA6.out.arcs e.symm; have := HA6.out.st; rw [hcur] at this; simp at this)).trans HA6.out.st; have hz4 : W'.cell? ⟨b, 1, none⟩ = some (.slice aa' s'.ar.length ac') := cell_of_row W' b 1 _ _ _ hst; have hz5 : W'.frozen? ⟨b, 1, none⟩ = false := frozen_of_row W' b 1 _ _ hst)
        obtain ⟨st1, st2⟩ := HA6.out.arc hgr (ar' := s'.ar ++ [(k, t, s'.ms.length)]) (by rw [List.length_append, arcsL_snoc]; exact hown)
        have HFF := hide (HS5.out.step hdrop htn hcan HONE.out st1 (own_turn HE6.out st2))
        clear hst hown hgr hlies hglt st1 st2 HS5 HST5 HA6 HEN5 HE6 HNW HONE z0 z1 hi2 hz4 hz5
        go_roundw
        case rel => exact ⟨i + 1, _, _, _, by omega, by go_num, HFF⟩
        case measure => simp [intOf]; omega
end Go.Proofs.Ytdhnhpjcoeglmaa
