/- Contracts that the proof stands on, one behind the other. -/
import Derived.Test.YtedbihlpggficaaP6
import Derived.Deep.Onto
import Derived.Great.BuildSlice
import Derived.Deep.Cut
/- A slice of the call's own that is appended to and cut at its front; the state of the search in memory. -/
namespace Go.Proofs.Ytedbihlpggficaa
open Go.RowKit
open Go.ChangeMaps (setBlock heap_setBlock_same heap_setBlock_other)
set_option maxRecDepth 10000

/-- v is a slice of n elements, the cells xs, in a block of the call's own, whose room behind is free. -/
def Tail (w : World) (B : Nat) (size : Nat) (v : Value) (n : Nat) (xs : List Value) : Prop :=
  xs.length = n * size ∧ ((v = .slice none 0 0 ∧ n = 0) ∨ ∃ g off cap, v = .slice (some ⟨g, off, none⟩) n cap ∧ B ≤ g ∧ g < w.heap.size ∧ n ≤ cap ∧ cap ≤ maxLen ∧
    (∀ j u, xs[j]? = some u → w.cell? ⟨g, off + j, none⟩ = some u) ∧ ∀ j, j < cap * size → (w.cell? ⟨g, off + j, none⟩).isSome = true ∧ w.frozen? ⟨g, off + j, none⟩ = false)

theorem Tail.of_own {w : World} {B : Nat} {e : TypeId} {size : Nat} {v : Value} {n : Nat} {xs : List Value} (h : w.ownsRow B e size v n xs) : Tail w B size v n xs := by
  refine ⟨h.1, ?_⟩
  have hl := h.1
  rcases h.2 with h0 | ⟨g, cap, cur, rfl, hb, hg, hn, hc, hs, ht⟩
  · exact .inl h0
  · refine .inr ⟨g, 0, cap, rfl, hb, (Array.getElem?_eq_some_iff.mp hg).1, hn, hc, fun j u hu => ?_, fun j hj => ⟨?_, frozen_of_row w g _ cur e hg⟩⟩
    · have hj : j < n * size := by rw [← hl]; exact (List.getElem?_eq_some_iff.mp hu).1
      rw [Nat.zero_add, h.cellAt j hj]; exact hu
    · rw [Nat.zero_add, cell_of_row w g j cur e _ hg, Array.getElem?_eq_getElem (by omega)]; rfl

theorem Tail.nil (w : World) (B size : Nat) : Tail w B size (.slice none 0 0) 0 [] := ⟨by simp, .inl ⟨rfl, rfl⟩⟩

theorem Tail.form {w : World} {B size : Nat} {v : Value} {n : Nat} {xs : List Value} (h : Tail w B size v n xs) : ∃ a c, v = .slice a n c := by
  rcases h.2 with ⟨rfl, rfl⟩ | ⟨g, off, cap, rfl, _⟩
  · exact ⟨_, _, rfl⟩
  · exact ⟨_, _, rfl⟩

theorem Tail.lt {w : World} {B size : Nat} {v : Value} {n : Nat} {xs : List Value} (h : Tail w B size v n xs) {g : Nat} (hg : v.ownBlock = some g) : B ≤ g ∧ g < w.heap.size := by
  rcases h.2 with ⟨rfl, _⟩ | ⟨g', off, cap, rfl, h1, h2, _⟩
  · simp [Value.ownBlock] at hg
  · simp [Value.ownBlock] at hg; subst hg; exact ⟨h1, h2⟩

/-- It stays while its own block stays. -/
theorem Tail.kept {w w' : World} {B size : Nat} {v : Value} {n : Nat} {xs : List Value} (h : Tail w B size v n xs) (hs : w.heap.size ≤ w'.heap.size) (hb : ∀ g, v.ownBlock = some g → w'.heap[g]? = w.heap[g]?) : Tail w' B size v n xs := by
  refine ⟨h.1, ?_⟩
  rcases h.2 with h0 | ⟨g, off, cap, rfl, h1, h2, h3, h4, h5, h6⟩
  · exact .inl h0
  · have e := hb g rfl
    exact .inr ⟨g, off, cap, rfl, h1, by omega, h3, h4, fun j u hu => (World.cell?_of_block (a := ⟨g, off + j, none⟩) e).trans (h5 j u hu), fun j hj => by
      rw [World.cell?_of_block (a := ⟨g, off + j, none⟩) e, World.frozen?_of_block (a := ⟨g, off + j, none⟩) e]; exact h6 j hj⟩

theorem Tail.grow {w w' : World} {B size : Nat} {v : Value} {n : Nat} {xs : List Value} (h : Tail w B size v n xs) (hb : Below w.heap.size w w') : Tail w' B size v n xs :=
  h.kept hb.size fun g hg => hb.block g (h.lt hg).2

theorem ownsRow_kept {w w' : World} {B : Nat} {e : TypeId} {size : Nat} {v : Value} {n : Nat} {xs : List Value} (h : w.ownsRow B e size v n xs) (hb : ∀ g, v.ownBlock = some g → w'.heap[g]? = w.heap[g]?) : w'.ownsRow B e size v n xs := by
  refine ⟨h.1, ?_⟩
  rcases h.2 with h0 | ⟨g, cap, cur, rfl, h1, h2, h3⟩
  · exact .inl h0
  · exact .inr ⟨g, cap, cur, rfl, h1, (hb g rfl).trans h2, h3⟩

theorem grown_setCells (b : Nat) : ∀ (vs : List Value) (o : Nat) (w : World), w.grownBy (w.setCells b o vs) (some b)
  | [], _, w => ⟨rfl, rfl, rfl, Nat.le_refl _, fun _ _ _ => rfl⟩
  | v :: r, o, w => by
    have ih := grown_setCells b r (o + 1) (w.setCell ⟨b, o, none⟩ v)
    rw [World.setCells]
    refine ⟨ih.os, ih.tape, ih.output, ?_, fun k hk hne => ?_⟩
    · have := ih.size; simpa [World.setCell] using this
    · have hk' : k < (w.setCell ⟨b, o, none⟩ v).heap.size := by simpa [World.setCell] using hk
      exact (ih.block k hk' hne).trans (Below.heap_setCell _ _ _ _ (fun e => hne (by rw [e])))

/-- One element more. -/
theorem run_append_tail {P : Program} {w : World} {B : Nat} {size : Nat} {v : Value} {n : Nat} {xs : List Value} (h : Tail w B size v n xs)
    (t ty e : TypeId) (i : TypeInfo) (z : Value) (bytes : Nat) (ht : P.underlying t = some (.slice e)) (hi : P.info? e = some i) (hz : i.zero = some z) (hsize : i.size = size) (hby : i.bytes = bytes) (hzs : z.cells.size = size) (hsz : 0 < size)
    (ad : Addr) (c : Nat) (news : List Value) (hl : news.length = 1 * size) (hnews : ∀ j u, news[j]? = some u → w.cell? (ad.add j) = some u) (h1 : ∀ u ∈ news, u.oneCell' = true)
    (h63 : n + 1 ≤ maxLen) (hbytes : (n + 1) * bytes ≤ 140737488355328) (hB : B ≤ w.heap.size) :
    ∃ v' w', (Builtin.append_ #[t, t] ty #[v, .slice (some ad) 1 c]).run P w = .ok v' w' ∧ Tail w' B size v' (n + 1) (xs ++ news) ∧ w.grownBy w' v.ownBlock ∧ (∀ g, v'.ownBlock = some g → v.ownBlock = some g ∨ w.heap.size ≤ g) := by
  have hxl := h.1
  rcases h.2 with ⟨rfl, rfl⟩ | ⟨g, off, cap, rfl, hb, hlt, hn, hc, hx, hsp⟩
  · obtain rfl : xs = [] := List.eq_nil_of_length_eq_zero (by simpa using hxl)
    obtain ⟨v', w', hr, h2, h3, _, h5⟩ := run_append_own_at (P := P) w B t ty e i z size bytes ht hi hz hsize hby hzs hsz (.slice none 0 0) 0 [] (World.ownsRow_nil w _ e size) ad 1 c news hl hnews h1 h63 hbytes hB
    refine ⟨v', w', hr, Tail.of_own h2, h3, fun g hg => ?_⟩
    rcases h5 with h5 | h5
    · rw [h5] at hg; simp [Value.ownBlock] at hg
    · rw [h5] at hg; right; have := Option.some.inj hg; omega
  · by_cases hr : n + 1 ≤ cap
    · have hrc : (n + 1) * size ≤ cap * size := Nat.mul_le_mul_right _ hr
      rw [Nat.add_mul, Nat.one_mul] at hrc
      have hnl : news.length = size := by rw [hl, Nat.one_mul]
      have hsome : ∀ j, j < news.length → (w.cell? ⟨g, off + n * i.size + j, none⟩).isSome = true := fun j hj => by
        have := (hsp (n * size + j) (by omega)).1
        rw [hsize, Nat.add_assoc]; exact this
      have hrun := run_append_room_cells (P := P) w t ty e i ht hi g off n cap ad 1 c news (by rw [hsize]; exact hl) hnews h1 hr hsome (fun j hj => by
        have := (hsp (n * size + j) (by omega)).2
        rw [hsize, Nat.add_assoc]; exact this)
      rw [hsize] at hrun hsome
      have hg := grown_setCells g news (off + n * size) w
      refine ⟨_, _, hrun, ⟨by rw [List.length_append, hxl, hl]; rw [Nat.add_mul], .inr ⟨g, off, cap, rfl, hb, Nat.lt_of_lt_of_le hlt hg.size, hr, hc, fun j u hu => ?_, fun j hj => ?_⟩⟩, hg, fun g' hg' => .inl hg'⟩
      · by_cases hj : j < xs.length
        · rw [List.getElem?_append_left hj] at hu
          rw [World.cell?_setCells_out g news _ w _ (fun _ _ => Or.inl (by show off + j < off + n * size; omega))]
          exact hx j u hu
        · rw [List.getElem?_append_right (by omega)] at hu
          have hj' : j - xs.length < news.length := (List.getElem?_eq_some_iff.mp hu).1
          have := World.cell?_setCells_in g news (off + n * size) w hsome (j - xs.length) hj'
          rw [show off + n * size + (j - xs.length) = off + j by omega] at this
          rw [this, ← hu, List.getElem?_eq_getElem hj']
      · exact ⟨World.isSome_setCells g news _ w _ (hsp j hj).1, by rw [World.frozen?_setCells]; exact (hsp j hj).2⟩
    · obtain ⟨v', w', hrun, r1, r2⟩ := run_append_arg_grows (P := P) w t ty e i z size bytes ht hi hz hsize hby hzs hsz ⟨g, off, none⟩ n cap xs hxl (fun j u hu => by rw [Addr.add_mid]; exact hx j u hu) ad 1 c news hl hnews (by omega) h63 hbytes
      refine ⟨v', w', hrun, ?_, ⟨r2.os, r2.tape, r2.output, r2.size, fun k hk hne => r2.block k hk (by simp)⟩, fun g' hg' => .inr ?_⟩
      · have := Tail.of_own r1
        refine ⟨this.1, this.2.imp id ?_⟩
        rintro ⟨g1, o1, c1, e1, e2, e3⟩
        exact ⟨g1, o1, c1, e1, Nat.le_trans hB e2, e3⟩
      · exact (Tail.of_own r1).lt hg' |>.1

/-- What is left when the first one is cut off. -/
def popV (size : Nat) : Value → Value
  | .slice (some ⟨g, off, none⟩) n cap => .slice (some ⟨g, if cap = 1 then off else off + size, none⟩) (n - 1) (cap - 1)
  | v => v

theorem Tail.pop {w : World} {B size : Nat} {v : Value} {n : Nat} {xs : List Value} (h : Tail w B size v (n + 1) xs) : Tail w B size (popV size v) n (xs.drop size) := by
  have hl := h.1
  rcases h.2 with ⟨_, h0⟩ | ⟨g, off, cap, rfl, hb, hlt, hn, hc, hx, hsp⟩
  · omega
  · refine ⟨by rw [List.length_drop, hl, Nat.add_mul]; omega, .inr ⟨g, if cap = 1 then off else off + size, cap - 1, ?_, hb, hlt, by omega, by omega, fun j u hu => ?_, fun j hj => ?_⟩⟩
    · simp [popV]
    · rw [List.getElem?_drop] at hu
      have h2 := hx _ u hu
      by_cases h1 : cap = 1
      · have hn0 : n = 0 := by omega
        have : (xs[size + j]?) = none := List.getElem?_eq_none (by rw [hl, hn0]; omega)
        rw [this] at hu; cases hu
      · rw [if_neg h1, Nat.add_assoc]; exact h2
    · by_cases h1 : cap = 1
      · subst h1; simp at hj
      · rw [if_neg h1, Nat.add_assoc]
        refine hsp _ ?_
        have : cap * size = (cap - 1) * size + size := by
          conv => lhs; rw [show cap = (cap - 1) + 1 by omega]
          rw [Nat.add_mul, Nat.one_mul]
        omega

theorem popV_block (size : Nat) {w : World} {B : Nat} {v : Value} {n : Nat} {xs : List Value} (h : Tail w B size v n xs) : (popV size v).ownBlock = v.ownBlock := by
  rcases h.2 with ⟨rfl, _⟩ | ⟨g, off, cap, rfl, _⟩
  · rfl
  · simp [popV, Value.ownBlock]

/-- The cells of some marks. -/
def toksL (l : Nat) (q : List (List Int)) : List Value := q.flatMap fun m => (packOf m l).toList

theorem toksL_len (l : Nat) (q : List (List Int)) : (toksL l q).length = q.length * 16 := by
  induction q with
  | nil => rfl
  | cons m r ih => unfold toksL at *; rw [List.flatMap_cons, List.length_append, ih]; simp [packOf_size]; omega
theorem toksL_snoc (l : Nat) (q : List (List Int)) (m : List Int) : toksL l (q ++ [m]) = toksL l q ++ (packOf m l).toList := by simp [toksL]
theorem toksL_cons (l : Nat) (q : List (List Int)) (m : List Int) : toksL l (m :: q) = (packOf m l).toList ++ toksL l q := by simp [toksL]
theorem toksL_drop (l : Nat) (q : List (List Int)) (m : List Int) : (toksL l (m :: q)).drop 16 = toksL l q := by
  rw [toksL_cons, List.drop_append_of_le_length (by simp [packOf_size])]
  simp [packOf_size]

/-- The cells of some arcs. -/
def arcsL (ar : List (Nat × Nat × Nat)) : List Value := ar.flatMap fun a => [.int .i64 (a.1 : Int), .int .i64 (a.2.1 : Int), .int .i64 (a.2.2 : Int)]

theorem arcsL_snoc (ar : List (Nat × Nat × Nat)) (a : Nat × Nat × Nat) : arcsL (ar ++ [a]) = arcsL ar ++ [.int .i64 (a.1 : Int), .int .i64 (a.2.1 : Int), .int .i64 (a.2.2 : Int)] := by simp [arcsL]

/-- The state of the search in memory: block b. -/
structure Sm (W0 w : World) (b BS mb : Nat) (p : Int) (n l Bg : Nat) (L : List (List Int)) (wv av : Value) (ms qs : List (List Int)) (ar : List (Nat × Nat × Nat)) : Prop where
  bel : Below W0.heap.size W0 w
  st : w.heap[b]? = some (.cells #[.int .i64 p, .slice (some ⟨BS, 0, none⟩) n n, .int .i64 (Bg : Int), .map (some mb), wv, av] 134 (0, 0))
  steps : PartS w BS (3 * n) (3 * n) L
  map : MapIs w mb l ms
  que : Tail w W0.heap.size 16 wv qs.length (toksL l qs)
  arcs : w.ownsRow W0.heap.size 129 3 av ar.length (arcsL ar)
  hb : W0.heap.size ≤ b
  hm : W0.heap.size ≤ mb
  hbs : True
  ne1 : mb ≠ b
  ne2 : BS ≠ b
  ne3 : BS ≠ mb
  sepw : ∀ g, wv.ownBlock = some g → g ≠ b ∧ g ≠ mb ∧ g ≠ BS ∧ av.ownBlock ≠ some g
  sepa : ∀ g, av.ownBlock = some g → g ≠ b ∧ g ≠ mb ∧ g ≠ BS

section
variable {W0 w w' : World} {b BS mb : Nat} {p : Int} {n l Bg : Nat} {L : List (List Int)} {wv av : Value} {ms qs : List (List Int)} {ar : List (Nat × Nat × Nat)}

theorem PartS.lt {w : World} {B n k : Nat} {L : List (List Int)} (h : PartS w B n k L) : B < w.heap.size := by
  obtain ⟨C, h1, _⟩ := h
  exact (Array.getElem?_eq_some_iff.mp h1).1
theorem PartS.kept {w w' : World} {B n k : Nat} {L : List (List Int)} (h : PartS w B n k L) (hb : w'.heap[B]? = w.heap[B]?) : PartS w' B n k L := by
  obtain ⟨C, h1, h2⟩ := h
  exact ⟨C, hb.trans h1, h2⟩

theorem Sm.blt (h : Sm W0 w b BS mb p n l Bg L wv av ms qs ar) : b < w.heap.size := (Array.getElem?_eq_some_iff.mp h.st).1

theorem own_lt {w : World} {B : Nat} {e : TypeId} {size : Nat} {v : Value} {n : Nat} {xs : List Value} (h : w.ownsRow B e size v n xs) {g : Nat} (hg : v.ownBlock = some g) : B ≤ g ∧ g < w.heap.size := h.lt g hg

/-- Nothing that was there has turned. -/
theorem Sm.go (h : Sm W0 w b BS mb p n l Bg L wv av ms qs ar) (hb : Below w.heap.size w w') : Sm W0 w' b BS mb p n l Bg L wv av ms qs ar :=
  ⟨h.bel.trans (hb.mono h.bel.size), (hb.block b h.blt).trans h.st, h.steps.grow hb, h.map.kept (hb.block mb h.map.lt), h.que.grow hb, ownsRow_kept h.arcs fun g hg => hb.block g (own_lt h.arcs hg).2,
    h.hb, h.hm, h.hbs, h.ne1, h.ne2, h.ne3, h.sepw, h.sepa⟩

theorem Sm.cells (h : Sm W0 w b BS mb p n l Bg L wv av ms qs ar) :
    w.cell? ⟨b, 0, none⟩ = some (.int .i64 p) ∧ w.cell? ⟨b, 1, none⟩ = some (.slice (some ⟨BS, 0, none⟩) n n) ∧ w.cell? ⟨b, 2, none⟩ = some (.int .i64 (Bg : Int)) ∧ w.cell? ⟨b, 3, none⟩ = some (.map (some mb)) ∧ w.cell? ⟨b, 4, none⟩ = some wv ∧ w.cell? ⟨b, 5, none⟩ = some av := by
  refine ⟨?_, ?_, ?_, ?_, ?_, ?_⟩ <;> rw [cell_of_row w b _ _ _ _ h.st] <;> rfl

theorem Sm.free (h : Sm W0 w b BS mb p n l Bg L wv av ms qs ar) (o : Nat) : w.frozen? ⟨b, o, none⟩ = false := frozen_of_row w b o _ _ h.st

/-- A new mark has got its number. -/
theorem Sm.put (h : Sm W0 w b BS mb p n l Bg L wv av ms qs ar) (m : List Int) : Sm W0 (setBlock w mb (.map (entsOf l (ms ++ [m])) (ms.length + 1))) b BS mb p n l Bg L wv av (ms ++ [m]) qs ar := by
  have hm := h.map
  unfold MapIs at hm
  have oth : ∀ g, g ≠ mb → (setBlock w mb (.map (entsOf l (ms ++ [m])) (ms.length + 1))).heap[g]? = w.heap[g]? := fun g hg => heap_setBlock_other hm _ hg
  have hs : (setBlock w mb (.map (entsOf l (ms ++ [m])) (ms.length + 1))).heap.size = w.heap.size := by simp [setBlock]
  refine ⟨h.bel.trans ⟨rfl, rfl, rfl, by rw [hs]; exact Nat.le_refl _, fun k hk => oth k (by have := h.hm; have := h.bel.size; omega)⟩, (oth b (Ne.symm h.ne1)).trans h.st, h.steps.kept (oth BS h.ne3), h.map.put m, h.que.kept (by rw [hs]; exact Nat.le_refl _) fun g hg => oth g (h.sepw g hg).2.1,
    ownsRow_kept h.arcs fun g hg => oth g (h.sepa g hg).2.1, h.hb, h.hm, h.hbs, h.ne1, h.ne2, h.ne3, h.sepw, h.sepa⟩

theorem below_setCellB {W0 w : World} {a : Addr} {v : Value} (h : Below W0.heap.size W0 w) (ha : W0.heap.size ≤ a.block) : Below W0.heap.size W0 (w.setCell a v) := h.setCell ha v

theorem size_setCell (w : World) (a : Addr) (v : Value) : (w.setCell a v).heap.size = w.heap.size := by simp [World.setCell]

/-- A field of the state is written. -/
theorem Sm.waiting (h : Sm W0 w b BS mb p n l Bg L wv av ms qs ar) (hg : w.grownBy w' wv.ownBlock) {v : Value} {qs' : List (List Int)} (ht : Tail w' W0.heap.size 16 v qs'.length (toksL l qs')) (hl : ∀ g, v.ownBlock = some g → wv.ownBlock = some g ∨ w.heap.size ≤ g) :
    Sm W0 (w'.setCell ⟨b, 4, none⟩ v) b BS mb p n l Bg L v av ms qs' ar := by
  have far : ∀ g, g < w.heap.size → g ≠ b → wv.ownBlock ≠ some g → (w'.setCell ⟨b, 4, none⟩ v).heap[g]? = w.heap[g]? := fun g h1 h2 h3 =>
    (Below.heap_setCell _ _ _ _ h2).trans (hg.block g h1 (fun e => h3 e.symm))
  have hbb : w'.heap[b]? = w.heap[b]? := hg.block b h.blt (fun e => (h.sepw b e.symm).1 rfl)
  refine ⟨?_, ?_, h.steps.kept (far BS h.steps.lt h.ne2 fun e => (h.sepw BS e).2.2.1 rfl), h.map.kept (far mb h.map.lt h.ne1 fun e => (h.sepw mb e).2.1 rfl), ?_, ?_, h.hb, h.hm, h.hbs, h.ne1, h.ne2, h.ne3, ?_, h.sepa⟩
  · refine Below.setCell ?_ h.hb _
    refine h.bel.grown hg h.bel.size fun k hk => (h.que.lt hk).1
  · rw [heap_setCell_same w' b 4 _ _ v (hbb.trans h.st)]; rfl
  · refine ht.kept (by rw [size_setCell]; exact Nat.le_refl _) fun g hgv => Below.heap_setCell _ _ _ _ ?_
    rcases hl g hgv with e | e
    · exact (h.sepw g e).1
    · have := h.blt; show g ≠ b; omega
  · exact ownsRow_kept h.arcs fun g hga => far g (own_lt h.arcs hga).2 (h.sepa g hga).1 fun e => (h.sepw g e).2.2.2 hga
  · intro g hgv
    rcases hl g hgv with e | e
    · exact h.sepw g e
    · have h1 := h.blt
      have h2 := h.map.lt
      have h3 := h.steps.lt
      exact ⟨by omega, by omega, by omega, fun e2 => by have := (own_lt h.arcs e2).2; omega⟩

theorem Sm.arc (h : Sm W0 w b BS mb p n l Bg L wv av ms qs ar) (hg : w.grownBy w' av.ownBlock) {v : Value} {ar' : List (Nat × Nat × Nat)} (ht : w'.ownsRow W0.heap.size 129 3 v ar'.length (arcsL ar')) (hl : ∀ g, v.ownBlock = some g → av.ownBlock = some g ∨ w.heap.size ≤ g) :
    Sm W0 (w'.setCell ⟨b, 5, none⟩ v) b BS mb p n l Bg L wv v ms qs ar' := by
  have far : ∀ g, g < w.heap.size → g ≠ b → av.ownBlock ≠ some g → (w'.setCell ⟨b, 5, none⟩ v).heap[g]? = w.heap[g]? := fun g h1 h2 h3 =>
    (Below.heap_setCell _ _ _ _ h2).trans (hg.block g h1 (fun e => h3 e.symm))
  have hbb : w'.heap[b]? = w.heap[b]? := hg.block b h.blt (fun e => (h.sepa b e.symm).1 rfl)
  refine ⟨?_, ?_, h.steps.kept (far BS h.steps.lt h.ne2 fun e => (h.sepa BS e).2.2 rfl), h.map.kept (far mb h.map.lt h.ne1 fun e => (h.sepa mb e).2.1 rfl), ?_, ?_, h.hb, h.hm, h.hbs, h.ne1, h.ne2, h.ne3, ?_, ?_⟩
  · refine Below.setCell ?_ h.hb _
    refine h.bel.grown hg h.bel.size fun k hk => (own_lt h.arcs hk).1
  · rw [heap_setCell_same w' b 5 _ _ v (hbb.trans h.st)]; rfl
  · refine h.que.kept (by rw [size_setCell]; exact hg.size) fun g hgw => far g (h.que.lt hgw).2 (h.sepw g hgw).1 (h.sepw g hgw).2.2.2
  · refine ownsRow_kept ht fun g hgv => Below.heap_setCell _ _ _ _ ?_
    rcases hl g hgv with e | e
    · exact (h.sepa g e).1
    · have := h.blt; show g ≠ b; omega
  · intro g hgw
    obtain ⟨a1, a2, a3, a4⟩ := h.sepw g hgw
    refine ⟨a1, a2, a3, fun e => ?_⟩
    rcases hl g e with e' | e'
    · exact a4 e'
    · have := (h.que.lt hgw).2; omega
  · intro g hgv
    rcases hl g hgv with e | e
    · exact h.sepa g e
    · have h1 := h.blt
      have h2 := h.map.lt
      have h3 := h.steps.lt
      exact ⟨by omega, by omega, by omega⟩
end
end Go.Proofs.Ytedbihlpggficaa


/- The program's meet: a mark is looked up, or gets the next number; for every state of the search. -/
namespace Go.Proofs.Ytedbihlpggficaa
open Go.RowKit
open Go.ChangeMaps (setBlock heap_setBlock_same heap_setBlock_other)
set_option maxRecDepth 10000

section
variable {P : Program} {o : Oper} {a : Act} {w : World}

theorem exec_load_row (ty : TypeId) (x : Operand) (ho : o.op = .load ty x) (g : Nat) (hx : a.eval x = .pointer (some ⟨g, 0, none⟩)) (t : TypeId) (cs : Array Value) (fr : Nat × Nat) (d : TypeDesc) (hg : w.heap[g]? = some (.cells cs t fr))
    (hu : P.underlying ty = some d) (hd : (match d with | .struct _ | .array _ _ => true | _ => false) = true) (hi : (P.info? ty).map (·.size) = some cs.size) : (execOp a.eval o).run P w = .ok (.value (.agg cs)) w := by
  unfold execOp
  simp only [ho, hx, Instr.loadAt, Instr.sureAddr, Sem.run_bind, Sem.run_pure, Result.andThen_ok, run_loadVar_row w g t ty cs fr d hg hu hd hi]

theorem exec_val {i : Sem Value} {v : Value} {w' : World} (h : execOp a.eval o = (do pure (.value (← i)))) (hr : i.run P w = .ok v w') : (execOp a.eval o).run P w = .ok (.value v) w' := by
  rw [h]; simp [hr, Result.andThen]

theorem exec_lookup (t : TypeId) (m x : Operand) (c : Bool) (ho : o.op = .lookup t m x c) (mv kv v : Value) (hm : a.eval m = mv) (hx : a.eval x = kv) (hr : (Instr.lookup t mv kv c).run P w = .ok v w) : (execOp a.eval o).run P w = .ok (.value v) w := by
  unfold execOp
  simp [ho, hm, hx, hr, Result.andThen]

theorem exec_len (t : TypeId) (x : Operand) (ho : o.op = .call { callee := .builtin .len, args := #[x], argTypes := #[t] }) (mv v : Value) (hm : a.eval x = mv) (hr : (Builtin.len_ #[t] o.type #[mv]).run P w = .ok v w) : (execOp a.eval o).run P w = .ok (.value v) w := by
  unfold execOp
  simp [ho, resolve, invoke, builtin, hm, hr, Result.andThen]

theorem oper_update {K : Act → World → Prop} {Q : Exit → Act → World → Prop} {w' : World} (t : TypeId) (m x y : Operand) (ho : o.op = .mapUpdate t m x y) (mv kv v : Value) (hm : a.eval m = mv) (hx : a.eval x = kv) (hy : a.eval y = v) (hr : (Instr.mapUpdate t mv kv v).run P w = .ok () w') (hd : o.dst = none) (h : K a w') : Oper.wp P o a w K Q := by
  unfold Oper.wp execOp
  simp only [ho, hm, hx, hy, Sem.run_bind, hr, Result.andThen_ok, Sem.run_pure]
  show K (a.put o.dst undef) _
  rw [hd]
  exact h

theorem oper_append {K : Act → World → Prop} {Q : Exit → Act → World → Prop} {w' : World} (d : Option Tmp) (hd : o.dst = d) (s x : Operand) (t : TypeId) (ho : o.op = .call { callee := .builtin .append, args := #[s, x], argTypes := #[t, t] }) (sv xv v : Value) (hs : a.eval s = sv) (hx : a.eval x = xv)
    (hr : (Builtin.append_ #[t, t] o.type #[sv, xv]).run P w = .ok v w') (h : K (a.put d v) w') : Oper.wp P o a w K Q := by
  subst hd
  unfold Oper.wp execOp
  simp only [ho, resolve, invoke, builtin, Sem.run_bind, Sem.run_pure, Result.andThen_ok, List.map_toArray, List.map_cons, List.map_nil, hs, hx, hr]
  exact h
end

theorem info_splitTQ {P : Program} {e : TypeId} {z : Value} {size bytes : Nat} (h : (P.info? e).map (fun i => (i.zero, i.size, i.bytes)) = some (some z, size, bytes)) : ∃ i, P.info? e = some i ∧ i.zero = some z ∧ i.size = size ∧ i.bytes = bytes := by
  obtain ⟨i, hi, hzz⟩ := Option.map_eq_some_iff.1 h
  simp only [Prod.mk.injEq] at hzz
  exact ⟨i, hi, hzz.1, hzz.2.1, hzz.2.2⟩

theorem Try.infoTQ : (Try.prog.info? 84).map (fun i => (i.zero, i.size, i.bytes)) = some (some (.agg #[.int .u8 0, .int .u8 0, .int .u8 0, .int .u8 0, .int .u8 0, .int .u8 0, .int .u8 0, .int .u8 0, .int .u8 0, .int .u8 0, .int .u8 0, .int .u8 0, .int .u8 0, .int .u8 0, .int .u8 0, .int .u8 0]), 16, 16) := by kernel_rfl

theorem fill_tokQ (f : Nat → Int) (zs : Array Value) (hz : zs.size = 16) : Instr.fill (fun i => some (i * 16, 16)) zs [(0, .agg (tokF f))] = some (tokF f) := by
  have hs : (Value.agg (tokF f)).cells.size = 16 := tokF_size f
  obtain ⟨r, h1, h2, h3⟩ := Great.fill_dense (s := 16) (by omega) [.agg (tokF f)] 0 zs (by intro v hv; obtain rfl := List.mem_singleton.mp hv; exact hs) (by simp [hz])
  have e : r = tokF f := by
    apply Array.ext_getElem?
    intro k
    rw [h3 k]
    by_cases hk : k < 16
    · rw [if_pos (by simp; omega), Nat.div_eq_of_lt hk, Nat.mod_eq_of_lt hk]
      rfl
    · rw [if_neg (by simp; omega), Array.getElem?_eq_none (by omega), Array.getElem?_eq_none (by rw [tokF_size]; omega)]
  rw [e] at h1
  exact h1

/-- A slice literal of one array. -/
theorem exec_build_tok {o : Oper} {a : Act} {w : World} (x : Operand) (ho : o.op = .buildSlice 71 1 #[(0, x)]) (f : Nat → Int) (hx : a.eval x = .agg (tokF f)) :
    (execOp a.eval o).run Try.prog w = .ok (.value (.slice (some ⟨w.heap.size, 0, none⟩) 1 1)) (w.alloc (.cells (tokF f) 84)) := by
  obtain ⟨i0, hi, hz0, hz1, hz2⟩ := info_splitTQ Try.infoTQ
  unfold execOp
  simp only [ho, Sem.run_bind]
  rw [Go.run_buildSlice w 71 84 1 _ (tokF f) i0 _ Try.underlying71 hi hz0 (by rw [hz1]; decide) (by rw [hz1]; decide) ?_]
  · rfl
  · rw [hz1]
    simp only [List.map_toArray, List.map_cons, List.map_nil, hx]
    exact fill_tokQ f _ (by simp)

/-- What a new mark turns: the state, the map, the row of those that wait. -/
structure Turned (w w' : World) (b mb : Nat) (wv wv' : Value) : Prop where
  far : ∀ g, g < w.heap.size → g ≠ b → g ≠ mb → wv.ownBlock ≠ some g → w'.heap[g]? = w.heap[g]?
  own : ∀ g, wv'.ownBlock = some g → wv.ownBlock = some g ∨ w.heap.size ≤ g
  size : w.heap.size ≤ w'.heap.size

theorem tok_oneT (m : List Int) (l : Nat) : ∀ u ∈ (packOf m l).toList, u.oneCell' = true := fun u hu => Array.all_eq_true_iff_forall_mem.1 (packOf_one m l) u (by simpa using hu)

set_option maxHeartbeats 4000000 in
theorem meet_old {W0 w : World} {b BS mb : Nat} {p : Int} {n l Bg : Nat} {L : List (List Int)} {wv av : Value} {ms qs : List (List Int)} {ar : List (Nat × Nat × Nat)} {m : List Int} (hs : Sm W0 w b BS mb p n l Bg L wv av ms qs ar) (hl : l ≤ 16) (hms : ∀ u ∈ ms, u.length = l) (hm : m.length = l) (hq : m ∈ ms) :
    Calls Try.prog 111 #[.pointer (some ⟨b, 0, none⟩), .agg (packOf m l)] w fun e w' => e = .returned (.tuple #[.int .i64 (ms.idxOf m : Int), .bool true]) ∧ Below w.heap.size w w' := by
  have HMS := hide hms
  have HS := hide (hs.go (below_al w (.cells (packOf m l) 84)))
  have PT := hide (heap_alloc_new w (.cells (packOf m l) 84))
  have HB := hide (below_al w (.cells (packOf m l) 84))
  clear hs hms
  go_enter Try.func111, Try.ntmps111
  go_upto_region 1 with fail
  generalize w.alloc (.cells (packOf m l) 84) = v at *
  refine wp_region_held_drew (S := fun W => W.cell? ⟨b, 3, none⟩ = some (.map (some mb)) ∧ W.heap[w.heap.size]? = some (.cells (packOf m l) 84 (0, 0)) ∧ MapIs W mb l ms) (by kernel_rfl) ?_ (fun hHeld => ?_)
  · exact ⟨HS.out.cells.2.2.2.1, PT.out, HS.out.map⟩
  refine take_yes (i := 0) (some 9) (.pointer (some ⟨b, 0, none⟩)) rfl rfl (by kernel_rfl) (by kernel_rfl) (by kernel_rfl) (fun _ _ _ h => h) (by rfl) ?_ (by assumption) ?_
  · intro W' hSw
    go_simp
  simp only [Act.put, List.setIfInBounds_toArray, List.set_cons_zero, List.set_cons_succ]
  refine take_yes (i := 1) (some 10) (.pointer (some ⟨b, 0, none⟩)) rfl rfl (by kernel_rfl) (by kernel_rfl) (by kernel_rfl) (fun _ _ _ h => h) (by rfl) ?_ (by assumption) ?_
  · intro W' hSw
    go_simp
  simp only [Act.put, List.setIfInBounds_toArray, List.set_cons_zero, List.set_cons_succ]
  refine take_yes (i := 2) (some 11) (.pointer (some ⟨b, 3, none⟩)) rfl rfl (by kernel_rfl) (by kernel_rfl) (by kernel_rfl) (fun _ _ _ h => h) (by rfl) ?_ (by assumption) ?_
  · intro W' hSw
    go_simp
  simp only [Act.put, List.setIfInBounds_toArray, List.set_cons_zero, List.set_cons_succ]
  refine take_yes (i := 3) (some 12) (.map (some mb)) rfl rfl (by kernel_rfl) (by kernel_rfl) (by kernel_rfl) (fun _ _ _ h => h) (by rfl) ?_ (by assumption) ?_
  · intro W' hSw
    obtain ⟨hz0, hz1, hz2⟩ := hSw
    go_simp
  simp only [Act.put, List.setIfInBounds_toArray, List.set_cons_zero, List.set_cons_succ]
  refine take_yes (i := 4) (some 13) (.agg (packOf m l)) rfl rfl (by kernel_rfl) (by kernel_rfl) (by kernel_rfl) (fun _ _ _ h => h) (by rfl) ?_ (by assumption) ?_
  · intro W' hSw
    obtain ⟨hz0, hz1, hz2⟩ := hSw
    exact exec_load_row 84 _ rfl _ rfl 84 _ _ _ hz1 Try.underlying84 rfl (by rw [packOf_size]; exact Try.size84)
  simp only [Act.put, List.setIfInBounds_toArray, List.set_cons_zero, List.set_cons_succ]
  refine take_yes (i := 5) (some 14) (.tuple #[.int .i64 (ms.idxOf m : Int), .bool true]) rfl rfl (by kernel_rfl) (by kernel_rfl) (by kernel_rfl) (fun _ _ _ h => h) (by rfl) ?_ (by assumption) ?_
  · intro W' hSw
    obtain ⟨hz0, hz1, hz2⟩ := hSw
    have hr := run_lookTok hl hm HMS.out hz2 true
    rw [if_pos rfl, if_pos hq, decide_eq_true hq] at hr
    exact exec_lookup 70 (.tmp 12) (.tmp 13) true rfl (.map (some mb)) (.agg (packOf m l)) _ rfl rfl hr
  simp only [Act.put, List.setIfInBounds_toArray, List.set_cons_zero, List.set_cons_succ]
  refine take_yes (i := 6) (some 8) (.tuple #[.int .i64 (ms.idxOf m : Int), .bool true]) rfl rfl (by kernel_rfl) (by kernel_rfl) (by kernel_rfl) (fun _ _ _ h => h) (by rfl) ?_ (by assumption) ?_
  · intro W' hSw
    go_simp
  simp only [Act.put, List.setIfInBounds_toArray, List.set_cons_zero, List.set_cons_succ]
  refine take_yes (i := 7) (some 15) (.int .i64 (ms.idxOf m : Int)) rfl rfl (by kernel_rfl) (by kernel_rfl) (by kernel_rfl) (fun _ _ _ h => h) (by rfl) ?_ (by assumption) ?_
  · intro W' hSw
    go_simp
  simp only [Act.put, List.setIfInBounds_toArray, List.set_cons_zero, List.set_cons_succ]
  refine take_yes (i := 8) (some 16) (.bool true) rfl rfl (by kernel_rfl) (by kernel_rfl) (by kernel_rfl) (fun _ _ _ h => h) (by rfl) ?_ (by assumption) ?_
  · intro W' hSw
    go_simp
  simp only [Act.put, List.setIfInBounds_toArray, List.set_cons_zero, List.set_cons_succ]
  refine take_yes (i := 9) (some 6) (.int .i64 (ms.idxOf m : Int)) rfl rfl (by kernel_rfl) (by kernel_rfl) (by kernel_rfl) (fun _ _ _ h => h) (by rfl) ?_ (by assumption) ?_
  · intro W' hSw
    go_simp
  simp only [Act.put, List.setIfInBounds_toArray, List.set_cons_zero, List.set_cons_succ]
  refine take_yes (i := 10) (some 7) (.bool true) rfl rfl (by kernel_rfl) (by kernel_rfl) (by kernel_rfl) (fun _ _ _ h => h) (by rfl) ?_ (by assumption) ?_
  · intro W' hSw
    go_simp
  simp only [Act.put, List.setIfInBounds_toArray, List.set_cons_zero, List.set_cons_succ]
  refine wpAnyH_done (by kernel_rfl) ?_ _
  have HD : Hid (Below w.heap.size w v.drew) := HB.out.drew
  clear HS PT HB hHeld
  generalize v.drew = u at *
  go_wp2_with fail
  go_ret2
  exact ⟨rfl, HD.out⟩

set_option maxHeartbeats 4000000 in
theorem meet_full {W0 w : World} {b BS mb : Nat} {p : Int} {n l Bg : Nat} {L : List (List Int)} {wv av : Value} {ms qs : List (List Int)} {ar : List (Nat × Nat × Nat)} {m : List Int} (hs : Sm W0 w b BS mb p n l Bg L wv av ms qs ar) (hl : l ≤ 16) (hms : ∀ u ∈ ms, u.length = l) (hm : m.length = l) (hq : m ∉ ms) (hf : ms.length = Bg) :
    Calls Try.prog 111 #[.pointer (some ⟨b, 0, none⟩), .agg (packOf m l)] w fun e w' => e = .returned (.tuple #[.int .i64 0, .bool false]) ∧ Below w.heap.size w w' := by
  have HMS := hide hms
  have HS := hide (hs.go (below_al w (.cells (packOf m l) 84)))
  have PT := hide (heap_alloc_new w (.cells (packOf m l) 84))
  have HB := hide (below_al w (.cells (packOf m l) 84))
  clear hs hms
  go_enter Try.func111, Try.ntmps111
  go_upto_region 1 with fail
  generalize w.alloc (.cells (packOf m l) 84) = v at *
  refine wp_region_held_drew (S := fun W => W.cell? ⟨b, 3, none⟩ = some (.map (some mb)) ∧ W.heap[w.heap.size]? = some (.cells (packOf m l) 84 (0, 0)) ∧ MapIs W mb l ms) (by kernel_rfl) ?_ (fun hHeld => ?_)
  · exact ⟨HS.out.cells.2.2.2.1, PT.out, HS.out.map⟩
  refine take_yes (i := 0) (some 9) (.pointer (some ⟨b, 0, none⟩)) rfl rfl (by kernel_rfl) (by kernel_rfl) (by kernel_rfl) (fun _ _ _ h => h) (by rfl) ?_ (by assumption) ?_
  · intro W' hSw
    go_simp
  simp only [Act.put, List.setIfInBounds_toArray, List.set_cons_zero, List.set_cons_succ]
  refine take_yes (i := 1) (some 10) (.pointer (some ⟨b, 0, none⟩)) rfl rfl (by kernel_rfl) (by kernel_rfl) (by kernel_rfl) (fun _ _ _ h => h) (by rfl) ?_ (by assumption) ?_
  · intro W' hSw
    go_simp
  simp only [Act.put, List.setIfInBounds_toArray, List.set_cons_zero, List.set_cons_succ]
  refine take_yes (i := 2) (some 11) (.pointer (some ⟨b, 3, none⟩)) rfl rfl (by kernel_rfl) (by kernel_rfl) (by kernel_rfl) (fun _ _ _ h => h) (by rfl) ?_ (by assumption) ?_
  · intro W' hSw
    go_simp
  simp only [Act.put, List.setIfInBounds_toArray, List.set_cons_zero, List.set_cons_succ]
  refine take_yes (i := 3) (some 12) (.map (some mb)) rfl rfl (by kernel_rfl) (by kernel_rfl) (by kernel_rfl) (fun _ _ _ h => h) (by rfl) ?_ (by assumption) ?_
  · intro W' hSw
    obtain ⟨hz0, hz1, hz2⟩ := hSw
    go_simp
  simp only [Act.put, List.setIfInBounds_toArray, List.set_cons_zero, List.set_cons_succ]
  refine take_yes (i := 4) (some 13) (.agg (packOf m l)) rfl rfl (by kernel_rfl) (by kernel_rfl) (by kernel_rfl) (fun _ _ _ h => h) (by rfl) ?_ (by assumption) ?_
  · intro W' hSw
    obtain ⟨hz0, hz1, hz2⟩ := hSw
    exact exec_load_row 84 _ rfl _ rfl 84 _ _ _ hz1 Try.underlying84 rfl (by rw [packOf_size]; exact Try.size84)
  simp only [Act.put, List.setIfInBounds_toArray, List.set_cons_zero, List.set_cons_succ]
  refine take_yes (i := 5) (some 14) (.tuple #[.int .i64 (0 : Int), .bool false]) rfl rfl (by kernel_rfl) (by kernel_rfl) (by kernel_rfl) (fun _ _ _ h => h) (by rfl) ?_ (by assumption) ?_
  · intro W' hSw
    obtain ⟨hz0, hz1, hz2⟩ := hSw
    have hr := run_lookTok hl hm HMS.out hz2 true
    rw [if_pos rfl, if_neg hq, decide_eq_false hq] at hr
    exact exec_lookup 70 (.tmp 12) (.tmp 13) true rfl (.map (some mb)) (.agg (packOf m l)) _ rfl rfl hr
  simp only [Act.put, List.setIfInBounds_toArray, List.set_cons_zero, List.set_cons_succ]
  refine take_yes (i := 6) (some 8) (.tuple #[.int .i64 (0 : Int), .bool false]) rfl rfl (by kernel_rfl) (by kernel_rfl) (by kernel_rfl) (fun _ _ _ h => h) (by rfl) ?_ (by assumption) ?_
  · intro W' hSw
    go_simp
  simp only [Act.put, List.setIfInBounds_toArray, List.set_cons_zero, List.set_cons_succ]
  refine take_yes (i := 7) (some 15) (.int .i64 (0 : Int)) rfl rfl (by kernel_rfl) (by kernel_rfl) (by kernel_rfl) (fun _ _ _ h => h) (by rfl) ?_ (by assumption) ?_
  · intro W' hSw
    go_simp
  simp only [Act.put, List.setIfInBounds_toArray, List.set_cons_zero, List.set_cons_succ]
  refine take_yes (i := 8) (some 16) (.bool false) rfl rfl (by kernel_rfl) (by kernel_rfl) (by kernel_rfl) (fun _ _ _ h => h) (by rfl) ?_ (by assumption) ?_
  · intro W' hSw
    go_simp
  simp only [Act.put, List.setIfInBounds_toArray, List.set_cons_zero, List.set_cons_succ]
  refine take_yes (i := 9) (some 6) (.int .i64 (0 : Int)) rfl rfl (by kernel_rfl) (by kernel_rfl) (by kernel_rfl) (fun _ _ _ h => h) (by rfl) ?_ (by assumption) ?_
  · intro W' hSw
    go_simp
  simp only [Act.put, List.setIfInBounds_toArray, List.set_cons_zero, List.set_cons_succ]
  refine take_yes (i := 10) (some 7) (.bool false) rfl rfl (by kernel_rfl) (by kernel_rfl) (by kernel_rfl) (fun _ _ _ h => h) (by rfl) ?_ (by assumption) ?_
  · intro W' hSw
    go_simp
  simp only [Act.put, List.setIfInBounds_toArray, List.set_cons_zero, List.set_cons_succ]
  refine wpAnyH_done (by kernel_rfl) ?_ _
  have HS1 : Hid (Sm W0 v.drew b BS mb p n l Bg L wv av ms qs ar) := HS.out.go (Below.refl _ _).drew
  have PT1 : Hid (v.drew.heap[w.heap.size]? = some (.cells (packOf m l) 84 (0, 0))) := keep PT.out (Below.refl _ v).drew
  have HB1 : Hid (Below w.heap.size w v.drew) := HB.out.drew
  clear HS PT HB hHeld
  generalize v.drew = u at *
  go_upto_region 4 with fail
  refine wp_region_held_drew (S := fun W => W.cell? ⟨b, 2, none⟩ = some (.int .i64 (Bg : Int)) ∧ W.cell? ⟨b, 3, none⟩ = some (.map (some mb)) ∧ MapIs W mb l ms) (by kernel_rfl) ?_ (fun hHeld => ?_)
  · exact ⟨HS1.out.cells.2.2.1, HS1.out.cells.2.2.2.1, HS1.out.map⟩
  refine take_yes (i := 0) (some 19) (.pointer (some ⟨b, 0, none⟩)) rfl rfl (by kernel_rfl) (by kernel_rfl) (by kernel_rfl) (fun _ _ _ h => h) (by rfl) ?_ (by assumption) ?_
  · intro W' hSw
    go_simp
  simp only [Act.put, List.setIfInBounds_toArray, List.set_cons_zero, List.set_cons_succ]
  refine take_yes (i := 1) (some 20) (.pointer (some ⟨b, 0, none⟩)) rfl rfl (by kernel_rfl) (by kernel_rfl) (by kernel_rfl) (fun _ _ _ h => h) (by rfl) ?_ (by assumption) ?_
  · intro W' hSw
    go_simp
  simp only [Act.put, List.setIfInBounds_toArray, List.set_cons_zero, List.set_cons_succ]
  refine take_yes (i := 2) (some 21) (.pointer (some ⟨b, 3, none⟩)) rfl rfl (by kernel_rfl) (by kernel_rfl) (by kernel_rfl) (fun _ _ _ h => h) (by rfl) ?_ (by assumption) ?_
  · intro W' hSw
    go_simp
  simp only [Act.put, List.setIfInBounds_toArray, List.set_cons_zero, List.set_cons_succ]
  refine take_yes (i := 3) (some 22) (.map (some mb)) rfl rfl (by kernel_rfl) (by kernel_rfl) (by kernel_rfl) (fun _ _ _ h => h) (by rfl) ?_ (by assumption) ?_
  · intro W' hSw
    obtain ⟨hz0, hz1, hz2⟩ := hSw
    go_simp
  simp only [Act.put, List.setIfInBounds_toArray, List.set_cons_zero, List.set_cons_succ]
  refine take_yes (i := 4) (some 23) (.int .i64 (ms.length : Int)) rfl rfl (by kernel_rfl) (by kernel_rfl) (by kernel_rfl) (fun _ _ _ h => h) (by rfl) ?_ (by assumption) ?_
  · intro W' hSw
    obtain ⟨hz0, hz1, hz2⟩ := hSw
    exact exec_len 70 (.tmp 22) rfl (.map (some mb)) _ rfl (run_lenTok hz2 _)
  simp only [Act.put, List.setIfInBounds_toArray, List.set_cons_zero, List.set_cons_succ]
  refine take_yes (i := 5) (some 24) (.pointer (some ⟨b, 0, none⟩)) rfl rfl (by kernel_rfl) (by kernel_rfl) (by kernel_rfl) (fun _ _ _ h => h) (by rfl) ?_ (by assumption) ?_
  · intro W' hSw
    go_simp
  simp only [Act.put, List.setIfInBounds_toArray, List.set_cons_zero, List.set_cons_succ]
  refine take_yes (i := 6) (some 25) (.pointer (some ⟨b, 0, none⟩)) rfl rfl (by kernel_rfl) (by kernel_rfl) (by kernel_rfl) (fun _ _ _ h => h) (by rfl) ?_ (by assumption) ?_
  · intro W' hSw
    go_simp
  simp only [Act.put, List.setIfInBounds_toArray, List.set_cons_zero, List.set_cons_succ]
  refine take_yes (i := 7) (some 26) (.pointer (some ⟨b, 2, none⟩)) rfl rfl (by kernel_rfl) (by kernel_rfl) (by kernel_rfl) (fun _ _ _ h => h) (by rfl) ?_ (by assumption) ?_
  · intro W' hSw
    go_simp
  simp only [Act.put, List.setIfInBounds_toArray, List.set_cons_zero, List.set_cons_succ]
  refine take_yes (i := 8) (some 27) (.int .i64 (Bg : Int)) rfl rfl (by kernel_rfl) (by kernel_rfl) (by kernel_rfl) (fun _ _ _ h => h) (by rfl) ?_ (by assumption) ?_
  · intro W' hSw
    obtain ⟨hz0, hz1, hz2⟩ := hSw
    go_simp
  simp only [Act.put, List.setIfInBounds_toArray, List.set_cons_zero, List.set_cons_succ]
  refine take_yes (i := 9) (some 28) (.bool true) rfl rfl (by kernel_rfl) (by kernel_rfl) (by kernel_rfl) (fun _ _ _ h => h) (by rfl) ?_ (by assumption) ?_
  · intro W' hSw
    go_simp
  simp only [Act.put, List.setIfInBounds_toArray, List.set_cons_zero, List.set_cons_succ]
  refine wpAnyH_done (by kernel_rfl) ?_ _
  have HD : Hid (Below w.heap.size w u.drew) := HB1.out.drew
  clear HS1 PT1 HB1 hHeld
  generalize u.drew = u1 at *
  go_wp2_with fail
  go_ret2
  exact ⟨rfl, HD.out⟩

set_option maxHeartbeats 4000000 in
theorem meet_new {W0 w : World} {b BS mb : Nat} {p : Int} {n l Bg : Nat} {L : List (List Int)} {wv av : Value} {ms qs : List (List Int)} {ar : List (Nat × Nat × Nat)} {m : List Int} (hs : Sm W0 w b BS mb p n l Bg L wv av ms qs ar) (hl : l ≤ 16) (hms : ∀ u ∈ ms, u.length = l) (hm : m.length = l) (hq : m ∉ ms) (hf : ms.length ≠ Bg) (hB4 : Bg ≤ 400) (hq4 : qs.length ≤ 400) (hms4 : ms.length ≤ Bg) (hbw : Below W0.heap.size W0 w) :
    Calls Try.prog 111 #[.pointer (some ⟨b, 0, none⟩), .agg (packOf m l)] w fun e w' => e = .returned (.tuple #[.int .i64 (ms.length : Int), .bool true]) ∧ ∃ wv', Sm W0 w' b BS mb p n l Bg L wv' av (ms ++ [m]) (qs ++ [m]) ar ∧ Turned w w' b mb wv wv' := by
  have hw0 := hbw.size
  have HMS := hide hms
  have HS := hide (hs.go (below_al w (.cells (packOf m l) 84)))
  have PT := hide (heap_alloc_new w (.cells (packOf m l) 84))
  have HB := hide (below_al w (.cells (packOf m l) 84))
  clear hs hms
  go_enter Try.func111, Try.ntmps111
  go_upto_region 1 with fail
  generalize w.alloc (.cells (packOf m l) 84) = v at *
  refine wp_region_held_drew (S := fun W => W.cell? ⟨b, 3, none⟩ = some (.map (some mb)) ∧ W.heap[w.heap.size]? = some (.cells (packOf m l) 84 (0, 0)) ∧ MapIs W mb l ms) (by kernel_rfl) ?_ (fun hHeld => ?_)
  · exact ⟨HS.out.cells.2.2.2.1, PT.out, HS.out.map⟩
  refine take_yes (i := 0) (some 9) (.pointer (some ⟨b, 0, none⟩)) rfl rfl (by kernel_rfl) (by kernel_rfl) (by kernel_rfl) (fun _ _ _ h => h) (by rfl) ?_ (by assumption) ?_
  · intro W' hSw
    go_simp
  simp only [Act.put, List.setIfInBounds_toArray, List.set_cons_zero, List.set_cons_succ]
  refine take_yes (i := 1) (some 10) (.pointer (some ⟨b, 0, none⟩)) rfl rfl (by kernel_rfl) (by kernel_rfl) (by kernel_rfl) (fun _ _ _ h => h) (by rfl) ?_ (by assumption) ?_
  · intro W' hSw
    go_simp
  simp only [Act.put, List.setIfInBounds_toArray, List.set_cons_zero, List.set_cons_succ]
  refine take_yes (i := 2) (some 11) (.pointer (some ⟨b, 3, none⟩)) rfl rfl (by kernel_rfl) (by kernel_rfl) (by kernel_rfl) (fun _ _ _ h => h) (by rfl) ?_ (by assumption) ?_
  · intro W' hSw
    go_simp
  simp only [Act.put, List.setIfInBounds_toArray, List.set_cons_zero, List.set_cons_succ]
  refine take_yes (i := 3) (some 12) (.map (some mb)) rfl rfl (by kernel_rfl) (by kernel_rfl) (by kernel_rfl) (fun _ _ _ h => h) (by rfl) ?_ (by assumption) ?_
  · intro W' hSw
    obtain ⟨hz0, hz1, hz2⟩ := hSw
    go_simp
  simp only [Act.put, List.setIfInBounds_toArray, List.set_cons_zero, List.set_cons_succ]
  refine take_yes (i := 4) (some 13) (.agg (packOf m l)) rfl rfl (by kernel_rfl) (by kernel_rfl) (by kernel_rfl) (fun _ _ _ h => h) (by rfl) ?_ (by assumption) ?_
  · intro W' hSw
    obtain ⟨hz0, hz1, hz2⟩ := hSw
    exact exec_load_row 84 _ rfl _ rfl 84 _ _ _ hz1 Try.underlying84 rfl (by rw [packOf_size]; exact Try.size84)
  simp only [Act.put, List.setIfInBounds_toArray, List.set_cons_zero, List.set_cons_succ]
  refine take_yes (i := 5) (some 14) (.tuple #[.int .i64 (0 : Int), .bool false]) rfl rfl (by kernel_rfl) (by kernel_rfl) (by kernel_rfl) (fun _ _ _ h => h) (by rfl) ?_ (by assumption) ?_
  · intro W' hSw
    obtain ⟨hz0, hz1, hz2⟩ := hSw
    have hr := run_lookTok hl hm HMS.out hz2 true
    rw [if_pos rfl, if_neg hq, decide_eq_false hq] at hr
    exact exec_lookup 70 (.tmp 12) (.tmp 13) true rfl (.map (some mb)) (.agg (packOf m l)) _ rfl rfl hr
  simp only [Act.put, List.setIfInBounds_toArray, List.set_cons_zero, List.set_cons_succ]
  refine take_yes (i := 6) (some 8) (.tuple #[.int .i64 (0 : Int), .bool false]) rfl rfl (by kernel_rfl) (by kernel_rfl) (by kernel_rfl) (fun _ _ _ h => h) (by rfl) ?_ (by assumption) ?_
  · intro W' hSw
    go_simp
  simp only [Act.put, List.setIfInBounds_toArray, List.set_cons_zero, List.set_cons_succ]
  refine take_yes (i := 7) (some 15) (.int .i64 (0 : Int)) rfl rfl (by kernel_rfl) (by kernel_rfl) (by kernel_rfl) (fun _ _ _ h => h) (by rfl) ?_ (by assumption) ?_
  · intro W' hSw
    go_simp
  simp only [Act.put, List.setIfInBounds_toArray, List.set_cons_zero, List.set_cons_succ]
  refine take_yes (i := 8) (some 16) (.bool false) rfl rfl (by kernel_rfl) (by kernel_rfl) (by kernel_rfl) (fun _ _ _ h => h) (by rfl) ?_ (by assumption) ?_
  · intro W' hSw
    go_simp
  simp only [Act.put, List.setIfInBounds_toArray, List.set_cons_zero, List.set_cons_succ]
  refine take_yes (i := 9) (some 6) (.int .i64 (0 : Int)) rfl rfl (by kernel_rfl) (by kernel_rfl) (by kernel_rfl) (fun _ _ _ h => h) (by rfl) ?_ (by assumption) ?_
  · intro W' hSw
    go_simp
  simp only [Act.put, List.setIfInBounds_toArray, List.set_cons_zero, List.set_cons_succ]
  refine take_yes (i := 10) (some 7) (.bool false) rfl rfl (by kernel_rfl) (by kernel_rfl) (by kernel_rfl) (fun _ _ _ h => h) (by rfl) ?_ (by assumption) ?_
  · intro W' hSw
    go_simp
  simp only [Act.put, List.setIfInBounds_toArray, List.set_cons_zero, List.set_cons_succ]
  refine wpAnyH_done (by kernel_rfl) ?_ _
  have HS1 : Hid (Sm W0 v.drew b BS mb p n l Bg L wv av ms qs ar) := HS.out.go (Below.refl _ _).drew
  have PT1 : Hid (v.drew.heap[w.heap.size]? = some (.cells (packOf m l) 84 (0, 0))) := keep PT.out (Below.refl _ v).drew
  have HB1 : Hid (Below w.heap.size w v.drew) := HB.out.drew
  clear HS PT HB hHeld
  generalize v.drew = u at *
  go_upto_region 4 with fail
  refine wp_region_held_drew (S := fun W => W.cell? ⟨b, 2, none⟩ = some (.int .i64 (Bg : Int)) ∧ W.cell? ⟨b, 3, none⟩ = some (.map (some mb)) ∧ MapIs W mb l ms) (by kernel_rfl) ?_ (fun hHeld => ?_)
  · exact ⟨HS1.out.cells.2.2.1, HS1.out.cells.2.2.2.1, HS1.out.map⟩
  refine take_yes (i := 0) (some 19) (.pointer (some ⟨b, 0, none⟩)) rfl rfl (by kernel_rfl) (by kernel_rfl) (by kernel_rfl) (fun _ _ _ h => h) (by rfl) ?_ (by assumption) ?_
  · intro W' hSw
    go_simp
  simp only [Act.put, List.setIfInBounds_toArray, List.set_cons_zero, List.set_cons_succ]
  refine take_yes (i := 1) (some 20) (.pointer (some ⟨b, 0, none⟩)) rfl rfl (by kernel_rfl) (by kernel_rfl) (by kernel_rfl) (fun _ _ _ h => h) (by rfl) ?_ (by assumption) ?_
  · intro W' hSw
    go_simp
  simp only [Act.put, List.setIfInBounds_toArray, List.set_cons_zero, List.set_cons_succ]
  refine take_yes (i := 2) (some 21) (.pointer (some ⟨b, 3, none⟩)) rfl rfl (by kernel_rfl) (by kernel_rfl) (by kernel_rfl) (fun _ _ _ h => h) (by rfl) ?_ (by assumption) ?_
  · intro W' hSw
    go_simp
  simp only [Act.put, List.setIfInBounds_toArray, List.set_cons_zero, List.set_cons_succ]
  refine take_yes (i := 3) (some 22) (.map (some mb)) rfl rfl (by kernel_rfl) (by kernel_rfl) (by kernel_rfl) (fun _ _ _ h => h) (by rfl) ?_ (by assumption) ?_
  · intro W' hSw
    obtain ⟨hz0, hz1, hz2⟩ := hSw
    go_simp
  simp only [Act.put, List.setIfInBounds_toArray, List.set_cons_zero, List.set_cons_succ]
  refine take_yes (i := 4) (some 23) (.int .i64 (ms.length : Int)) rfl rfl (by kernel_rfl) (by kernel_rfl) (by kernel_rfl) (fun _ _ _ h => h) (by rfl) ?_ (by assumption) ?_
  · intro W' hSw
    obtain ⟨hz0, hz1, hz2⟩ := hSw
    exact exec_len 70 (.tmp 22) rfl (.map (some mb)) _ rfl (run_lenTok hz2 _)
  simp only [Act.put, List.setIfInBounds_toArray, List.set_cons_zero, List.set_cons_succ]
  refine take_yes (i := 5) (some 24) (.pointer (some ⟨b, 0, none⟩)) rfl rfl (by kernel_rfl) (by kernel_rfl) (by kernel_rfl) (fun _ _ _ h => h) (by rfl) ?_ (by assumption) ?_
  · intro W' hSw
    go_simp
  simp only [Act.put, List.setIfInBounds_toArray, List.set_cons_zero, List.set_cons_succ]
  refine take_yes (i := 6) (some 25) (.pointer (some ⟨b, 0, none⟩)) rfl rfl (by kernel_rfl) (by kernel_rfl) (by kernel_rfl) (fun _ _ _ h => h) (by rfl) ?_ (by assumption) ?_
  · intro W' hSw
    go_simp
  simp only [Act.put, List.setIfInBounds_toArray, List.set_cons_zero, List.set_cons_succ]
  refine take_yes (i := 7) (some 26) (.pointer (some ⟨b, 2, none⟩)) rfl rfl (by kernel_rfl) (by kernel_rfl) (by kernel_rfl) (fun _ _ _ h => h) (by rfl) ?_ (by assumption) ?_
  · intro W' hSw
    go_simp
  simp only [Act.put, List.setIfInBounds_toArray, List.set_cons_zero, List.set_cons_succ]
  refine take_yes (i := 8) (some 27) (.int .i64 (Bg : Int)) rfl rfl (by kernel_rfl) (by kernel_rfl) (by kernel_rfl) (fun _ _ _ h => h) (by rfl) ?_ (by assumption) ?_
  · intro W' hSw
    obtain ⟨hz0, hz1, hz2⟩ := hSw
    go_simp
  simp only [Act.put, List.setIfInBounds_toArray, List.set_cons_zero, List.set_cons_succ]
  refine take_yes (i := 9) (some 28) (.bool false) rfl rfl (by kernel_rfl) (by kernel_rfl) (by kernel_rfl) (fun _ _ _ h => h) (by rfl) ?_ (by assumption) ?_
  · intro W' hSw
    go_simp
    omega
  simp only [Act.put, List.setIfInBounds_toArray, List.set_cons_zero, List.set_cons_succ]
  refine wpAnyH_done (by kernel_rfl) ?_ _
  have HS2 : Hid (Sm W0 u.drew b BS mb p n l Bg L wv av ms qs ar) := HS1.out.go (Below.refl _ _).drew
  have PT2 : Hid (u.drew.heap[w.heap.size]? = some (.cells (packOf m l) 84 (0, 0))) := keep PT1.out (Below.refl _ u).drew
  have HB2 : Hid (Below w.heap.size w u.drew) := HB1.out.drew
  clear HS1 PT1 HB1 hHeld
  generalize u.drew = u1 at *
  have hc3 := HS2.out.cells.2.2.2.1
  have hlen := run_lenTok HS2.out.map
  have h7 : (ms.length : Int) ≤ 400 := by omega
  go_upto_region 7 with fail
  clear hlen hc3
  refine wp_region_held_drew (S := fun W => W.cell? ⟨b, 3, none⟩ = some (.map (some mb)) ∧ W.heap[w.heap.size]? = some (.cells (packOf m l) 84 (0, 0))) (by kernel_rfl) ?_ (fun hHeld => ?_)
  · exact ⟨HS2.out.cells.2.2.2.1, PT2.out⟩
  refine take_yes (i := 0) (some 34) (.pointer (some ⟨b, 0, none⟩)) rfl rfl (by kernel_rfl) (by kernel_rfl) (by kernel_rfl) (fun _ _ _ h => h) (by rfl) ?_ (by assumption) ?_
  · intro W' hSw
    go_simp
  simp only [Act.put, List.setIfInBounds_toArray, List.set_cons_zero, List.set_cons_succ]
  refine take_yes (i := 1) (some 35) (.pointer (some ⟨b, 0, none⟩)) rfl rfl (by kernel_rfl) (by kernel_rfl) (by kernel_rfl) (fun _ _ _ h => h) (by rfl) ?_ (by assumption) ?_
  · intro W' hSw
    go_simp
  simp only [Act.put, List.setIfInBounds_toArray, List.set_cons_zero, List.set_cons_succ]
  refine take_yes (i := 2) (some 36) (.pointer (some ⟨b, 3, none⟩)) rfl rfl (by kernel_rfl) (by kernel_rfl) (by kernel_rfl) (fun _ _ _ h => h) (by rfl) ?_ (by assumption) ?_
  · intro W' hSw
    go_simp
  simp only [Act.put, List.setIfInBounds_toArray, List.set_cons_zero, List.set_cons_succ]
  refine take_yes (i := 3) (some 37) (.map (some mb)) rfl rfl (by kernel_rfl) (by kernel_rfl) (by kernel_rfl) (fun _ _ _ h => h) (by rfl) ?_ (by assumption) ?_
  · intro W' hSw
    obtain ⟨hz0, hz1⟩ := hSw
    go_simp
  simp only [Act.put, List.setIfInBounds_toArray, List.set_cons_zero, List.set_cons_succ]
  refine take_yes (i := 4) (some 38) (.agg (packOf m l)) rfl rfl (by kernel_rfl) (by kernel_rfl) (by kernel_rfl) (fun _ _ _ h => h) (by rfl) ?_ (by assumption) ?_
  · intro W' hSw
    obtain ⟨hz0, hz1⟩ := hSw
    exact exec_load_row 84 _ rfl _ rfl 84 _ _ _ hz1 Try.underlying84 rfl (by rw [packOf_size]; exact Try.size84)
  simp only [Act.put, List.setIfInBounds_toArray, List.set_cons_zero, List.set_cons_succ]
  refine take_yes (i := 5) (some 39) (.int .i64 (ms.length : Int)) rfl rfl (by kernel_rfl) (by kernel_rfl) (by kernel_rfl) (fun _ _ _ h => h) (by rfl) ?_ (by assumption) ?_
  · intro W' hSw
    go_simp
  simp only [Act.put, List.setIfInBounds_toArray, List.set_cons_zero, List.set_cons_succ]
  have HS3 : Hid (Sm W0 u1.drew b BS mb p n l Bg L wv av ms qs ar) := HS2.out.go (Below.refl _ _).drew
  have PT3 : Hid (u1.drew.heap[w.heap.size]? = some (.cells (packOf m l) 84 (0, 0))) := keep PT2.out (Below.refl _ u1).drew
  have HB3 : Hid (Below w.heap.size w u1.drew) := HB2.out.drew
  clear HS2 PT2 HB2
  generalize u1.drew = u2 at *
  have HT4 : Hid (w.heap.size ≤ (setBlock u2 mb (.map (entsOf l (ms ++ [m])) (ms.length + 1))).heap.size ∧ ∀ g, g < w.heap.size → g ≠ mb → (setBlock u2 mb (.map (entsOf l (ms ++ [m])) (ms.length + 1))).heap[g]? = w.heap[g]?) :=
    ⟨by have := HB3.out.size; simpa [setBlock] using this, fun g hg hgm => (heap_setBlock_other (es := entsOf l ms) (clock := ms.length) HS3.out.map _ hgm).trans (HB3.out.block g hg)⟩
  have HS4 := hide (HS3.out.put m)
  have PT4 : Hid ((setBlock u2 mb (.map (entsOf l (ms ++ [m])) (ms.length + 1))).heap[w.heap.size]? = some (.cells (packOf m l) 84 (0, 0))) :=
    (heap_setBlock_other (es := entsOf l ms) (clock := ms.length) HS3.out.map _ (by have := HS3.out.map; unfold MapIs at this; intro e; rw [← e, PT3.out] at this; cases this)).trans PT3.out
  refine wpAnyH_ready (rs := [6]) (by kernel_rfl) (by simp) (AllReadyH.cons rfl (fun K hK => ?_) AllReadyH.nil)
  rw [if_pos (by rfl)]
  refine oper_update 70 (.tmp 37) (.tmp 38) (.tmp 39) rfl (.map (some mb)) (.agg (packOf m l)) (.int .i64 (ms.length : Int)) rfl rfl rfl (run_putTok hl hm HMS.out HS3.out.map hq) rfl ?_
  refine hK.out _ _ ⟨HS4.out.cells.2.2.2.1, PT4.out⟩ (fun _ => ?_)
  clear hK K hHeld
  refine wpAnyH_done (by kernel_rfl) ?_ _
  clear HS3 PT3 HB3
  generalize setBlock u2 mb (.map (entsOf l (ms ++ [m])) (ms.length + 1)) = u3 at *
  go_upto_region 8 with fail
  have HS5 : Hid (Sm W0 u3.drew b BS mb p n l Bg L wv av (ms ++ [m]) qs ar) := HS4.out.go (Below.refl _ _).drew
  have PT5 : Hid (u3.drew.heap[w.heap.size]? = some (.cells (packOf m l) 84 (0, 0))) := keep PT4.out (Below.refl _ u3).drew
  clear HS4 PT4
  obtain ⟨wa, wc, hwf⟩ := HS5.out.que.form
  refine wp_region_held_drew (S := fun _ => True) (by kernel_rfl) trivial (fun _ => ?_)
  refine take_yes (i := 0) (some 40) (.pointer (some ⟨b, 0, none⟩)) rfl rfl (by kernel_rfl) (by kernel_rfl) (by kernel_rfl) (fun _ _ _ h => h) (by rfl) ?_ trivial ?_
  · intro W' hSw
    go_simp
  simp only [Act.put, List.setIfInBounds_toArray, List.set_cons_zero, List.set_cons_succ]
  refine take_yes (i := 1) (some 41) (.pointer (some ⟨b, 0, none⟩)) rfl rfl (by kernel_rfl) (by kernel_rfl) (by kernel_rfl) (fun _ _ _ h => h) (by rfl) ?_ trivial ?_
  · intro W' hSw
    go_simp
  simp only [Act.put, List.setIfInBounds_toArray, List.set_cons_zero, List.set_cons_succ]
  refine take_yes (i := 2) (some 42) (.pointer (some ⟨b, 0, none⟩)) rfl rfl (by kernel_rfl) (by kernel_rfl) (by kernel_rfl) (fun _ _ _ h => h) (by rfl) ?_ trivial ?_
  · intro W' hSw
    go_simp
  simp only [Act.put, List.setIfInBounds_toArray, List.set_cons_zero, List.set_cons_succ]
  refine take_yes (i := 3) (some 43) (.pointer (some ⟨b, 4, none⟩)) rfl rfl (by kernel_rfl) (by kernel_rfl) (by kernel_rfl) (fun _ _ _ h => h) (by rfl) ?_ trivial ?_
  · intro W' hSw
    go_simp
  simp only [Act.put, List.setIfInBounds_toArray, List.set_cons_zero, List.set_cons_succ]
  obtain ⟨i1, hi1, hz0, hz1, hz2⟩ := info_splitTQ Try.infoTQ
  have HS6 := HS5
  have PT6 := PT5
  have hHl := row_lt PT6.out
  have HT6 : Hid (w.heap.size ≤ u3.drew.heap.size ∧ ∀ g, g < w.heap.size → g ≠ mb → u3.drew.heap[g]? = w.heap[g]?) := HT4.out
  clear HS5 PT5 HT4
  generalize u3.drew = u4 at *
  refine any_make [4, 5, 6] (fun i => i + 40) (fun i => if i = 6 then [5] else []) u4 (fun i v W => (i = 4 → v = wv) ∧ (i = 5 → v = .agg (packOf m l)) ∧ (i = 6 → ∃ g, v = .slice (some ⟨g, 0, none⟩) 1 1 ∧ W.heap[g]? = some (.cells (packOf m l) 84 (0, 0)))) (fuel := 4) ?_ (by decide) (fun i _ j _ h => by simpa using h) (by kernel_rfl) (by decide) (by kernel_rfl) (by kernel_rfl) (fun _ => trivial) ?_ (Below.refl _ _) ?_
  · rintro i v W W' ⟨h1, h2, h3⟩ hb
    refine ⟨h1, h2, fun e => ?_⟩
    obtain ⟨g, e1, e2⟩ := h3 e
    exact ⟨g, e1, keep e2 hb⟩
  · intro i hi a z W o ho hoth hdeps hb K hK
    simp only [List.mem_cons, List.not_mem_nil, or_false] at hi
    rcases hi with rfl | rfl | rfl
    all_goals obtain rfl := Option.some.inj ho
    · have e1 := evalD (v := .pointer (some ⟨b, 4, none⟩)) ((hoth 43 (by decide)).trans rfl)
      have hcw : W.cell? ⟨b, 4, none⟩ = some wv := (HS6.out.go hb).cells.2.2.2.2.1
      exact oper_val rfl (v := wv) (w' := W) (by go_simp) (hK _ _ ⟨fun _ => rfl, (fun e => absurd e (by decide)), (fun e => absurd e (by decide))⟩ (Below.refl _ _))
    · have e1 : a.eval (.tmp 3) = .pointer (some ⟨w.heap.size, 0, none⟩) := (hoth 3 (by decide)).trans rfl
      have hcw : W.heap[w.heap.size]? = some (.cells (packOf m l) 84 (0, 0)) := keep PT6.out hb
      exact oper_val rfl (v := .agg (packOf m l)) (w' := W) (exec_load_row 84 (.tmp 3) rfl _ e1 84 _ _ _ hcw Try.underlying84 rfl (by rw [packOf_size]; exact Try.size84)) (hK _ _ ⟨(fun e => absurd e (by decide)), (fun _ => rfl), (fun e => absurd e (by decide))⟩ (Below.refl _ _))
    · obtain ⟨e1, g5⟩ := hdeps 5 (by decide)
      have e2 : a.eval (.tmp 45) = .agg (tokF (fOf m l)) := e1.trans (g5.2.1 rfl)
      exact oper_val rfl (exec_build_tok (.tmp 45) rfl (fOf m l) e2) (hK _ _ ⟨(fun e => absurd e (by decide)), (fun e => absurd e (by decide)), fun _ => ⟨_, rfl, heap_alloc_new _ _⟩⟩ (below_al W _))
  · intro z u5 hb5 hG
    have e4 : z 4 = wv := (hG 4 (by decide)).1 rfl
    have e5 : z 5 = .agg (packOf m l) := (hG 5 (by decide)).2.1 rfl
    obtain ⟨g6, e6, hg6⟩ := (hG 6 (by decide)).2.2 rfl
    have HS7 := hide (HS6.out.go hb5)
    clear hG HS6 PT6 hHl
    rw [hwf] at e4
    simp only [frmD, lstD, if_true, Act.put, List.setIfInBounds_toArray, List.set_cons_zero, List.set_cons_succ, e4, e5, e6]
    obtain ⟨v', u6, hrun, r1, r2, r3⟩ := run_append_tail (P := Try.prog) HS7.out.que 71 71 84 i1 _ 16 Try.underlying71 hi1 hz0 hz1 hz2 rfl (by decide) ⟨g6, 0, none⟩ 1 (packOf m l).toList (by simp [packOf_size]) (World.news_of_block hg6) (tok_oneT m l) (by unfold maxLen; omega) (by omega) (by have := HS7.out.bel.size; exact this)
    rw [← toksL_snoc] at r1
    have HS8 := hide (HS7.out.waiting r2 (qs' := qs ++ [m]) (by simpa using r1) r3)
    have hst := (r2.block b HS7.out.blt (fun e => (HS7.out.sepw b e.symm).1 rfl)).trans HS7.out.st
    obtain ⟨va, vc, hvf⟩ := r1.form
    subst hvf hwf
    refine wpAnyH_ready (rs := [7]) (by kernel_rfl) (by simp) (AllReadyH.cons rfl (fun K hK => ?_) AllReadyH.nil)
    rw [if_pos (by rfl)]
    refine oper_append (some 47) rfl (.tmp 44) (.tmp 46) 71 rfl _ _ _ rfl rfl hrun ?_
    refine hK.out _ _ trivial (fun _ => ?_)
    clear hK K
    simp only [Act.put, List.setIfInBounds_toArray, List.set_cons_zero, List.set_cons_succ]
    refine take_yes (i := 8) (some 48) (.pointer (some ⟨b, 0, none⟩)) rfl rfl (by kernel_rfl) (by kernel_rfl) (by kernel_rfl) (fun _ _ _ h => h) (by rfl) ?_ trivial ?_
    · intro W' hSw
      go_simp
    simp only [Act.put, List.setIfInBounds_toArray, List.set_cons_zero, List.set_cons_succ]
    refine take_yes (i := 9) (some 49) (.pointer (some ⟨b, 4, none⟩)) rfl rfl (by kernel_rfl) (by kernel_rfl) (by kernel_rfl) (fun _ _ _ h => h) (by rfl) ?_ trivial ?_
    · intro W' hSw
      go_simp
    simp only [Act.put, List.setIfInBounds_toArray, List.set_cons_zero, List.set_cons_succ]

    refine store_one_next (i := 10) rfl rfl (by kernel_rfl) (by rfl) 71 _ _ rfl b 4 va (qs.length + 1) vc rfl rfl _ 134 hst (by simp) (by kernel_rfl) trivial (fun _ => ?_)
    refine wpAnyH_done (by kernel_rfl) ?_ _
    have HTT : Hid (Turned w (u6.setCell ⟨b, 4, none⟩ (.slice va (qs.length + 1) vc)) b mb (.slice wa qs.length wc) (.slice va (qs.length + 1) vc)) := by
      have hz5 := hb5.size
      have hz6 := r2.size
      have hz := HT6.out.1
      refine ⟨fun g h1 h2 h3 h4 => ?_, fun g hg => (r3 g hg).imp id (fun h => by omega), by rw [size_setCell]; omega⟩
      exact (Below.heap_setCell _ _ _ _ h2).trans ((r2.block g (by omega) (fun e => h4 e.symm)).trans ((hb5.block g (by omega)).trans (HT6.out.2 g h1 h3)))
    clear hst hrun r1 r2 r3 HS7 hg6 hb5 e4 e5 e6 HT6
    generalize u6.setCell ⟨b, 4, none⟩ (.slice va (qs.length + 1) vc) = u7 at *
    go_wp2_with fail
    go_ret2
    exact ⟨rfl, _, HS8.out, HTT.out⟩
end Go.Proofs.Ytedbihlpggficaa
