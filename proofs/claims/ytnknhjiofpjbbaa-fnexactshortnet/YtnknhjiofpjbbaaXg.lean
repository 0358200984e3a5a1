/- ShortNet of both, told alike; what a law over a flow whose answer is a net keeps in mind. -/
import Derived.Test.YtnknhjiofpjbbaaXf
import Derived.Test.YtnknhjiofpjbbaaWn
import Derived.Test.YtnknhjiofpjbbaaOg
namespace Go.Proofs.Ytnknhjiofpjbbaa
open Go.RowKit
set_option maxRecDepth 10000

theorem NetG.lowerX {w : World} {a : Option Addr} {B lo lo' hi n : Nat} {M : Nat → List Int} (h : NetG w a B lo hi n M) (hl : lo' ≤ lo) : NetG w a B lo' hi n M := by
  rcases h with h0 | ⟨e, C, A, f, cap, h1, h2, h3, h4⟩
  · exact .inl h0
  · refine .inr ⟨e, C, A, f, cap, h1, h2, fun j hj => ?_, h4⟩
    obtain ⟨q1, q2, q3⟩ := h3 j hj
    exact ⟨q1, q2, fun hm => ⟨Nat.le_trans hl (q3 hm).1, (q3 hm).2⟩⟩

theorem NetG.growX {w w' : World} {a : Option Addr} {B lo hi n : Nat} {M : Nat → List Int} (h : NetG w a B lo hi n M) (hb : Below w.heap.size w w') : NetG w' a B lo hi n M := by
  rcases h with h0 | ⟨e, hp⟩
  · exact .inl h0
  · exact .inr ⟨e, hp.grow hb⟩

theorem NetG.keepsX {w w' : World} {a : Option Addr} {B lo hi n lo' hi' : Nat} {M : Nat → List Int} (h : NetG w a B lo hi n M) (hk : Keeps lo' hi' w w') (h1 : hi' ≤ lo) (h2 : hi' ≤ B) : NetG w' a B lo hi n M := by
  rcases h with h0 | ⟨e, hp⟩
  · exact .inl h0
  · exact .inr ⟨e, hp.keeps hk h1 h2⟩

theorem Keeps.atTopX {lo hi : Nat} {w w' : World} (h : Keeps lo hi w w') {b : Nat} {o : Obj} (hb : w.heap[b]? = some o) (hh : hi ≤ b) : w'.heap[b]? = some o := (h.top b hh (Array.getElem?_eq_some_iff.mp hb).1).trans hb
theorem Keeps.atLowX {lo hi : Nat} {w w' : World} (h : Keeps lo hi w w') {b : Nat} {o : Obj} (hb : w.heap[b]? = some o) (hh : b < lo) : w'.heap[b]? = some o := (h.bel.block b hh).trans hb

theorem PartF.lowX {w w' : World} {B hi n lo : Nat} {T : TypeId} {M : Nat → List Int} (h : PartF w B hi n T M) (hb : Below lo w w') (hB : B < lo) (hh : hi ≤ lo) : PartF w' B hi n T M := by
  obtain ⟨C, f, h1, h2, h3, h4⟩ := h
  refine ⟨C, f, (hb.block B hB).trans h1, h2, fun j hj => ?_, h4⟩
  obtain ⟨e1, e2, e3, e4⟩ := h3 j hj
  refine ⟨e1, e2, e3, e4.1, ?_⟩
  rcases e4.2 with h0 | ⟨e, hh'⟩
  · exact .inl h0
  · exact .inr ⟨e, (hb.block _ (by omega)).trans hh'⟩


/-- w: the world ahead of the law; u: behind the specification's answer; v: now. -/
structure Sk (w u v : World) (Cp Cx : Array Value) (Tp Tx : TypeId) (n B hi bx : Nat) (M : Nat → List Int) (Cg : Array Value) (Tg : TypeId) (ag : Option Addr) (Bg lo hig N bg : Nat) (Mg : Nat → List Int) : Prop where
  old : Below w.heap.size w v
  mid : Below u.heap.size u v
  par : v.heap[w.heap.size]? = some (.cells Cp Tp (0, 0))
  x0 : v.heap[bx]? = some (.cells Cx Tx (0, 0))
  net : PartF v B hi (3 * n) 56 M
  g0 : v.heap[bg]? = some (.cells Cg Tg (0, 0))
  gn : NetG v ag Bg lo hig N Mg

section
variable {w u v v' : World} {Cp Cx : Array Value} {Tp Tx : TypeId} {n B hi bx : Nat} {M M' : Nat → List Int} {Cg : Array Value} {Tg : TypeId} {ag : Option Addr} {Bg lo hig N bg : Nat} {Mg Mg' : Nat → List Int}

theorem Sk.grow (h : Sk w u v Cp Cx Tp Tx n B hi bx M Cg Tg ag Bg lo hig N bg Mg) (hb : Below v.heap.size v v') : Sk w u v' Cp Cx Tp Tx n B hi bx M Cg Tg ag Bg lo hig N bg Mg :=
  ⟨h.old.trans (hb.mono h.old.size), h.mid.trans (hb.mono h.mid.size), keep h.par hb, keep h.x0 hb, h.net.grow hb, keep h.g0 hb, h.gn.growX hb⟩

theorem Sk.markN (h : Sk w u v Cp Cx Tp Tx n B hi bx M Cg Tg ag Bg lo hig N bg Mg) (hm : PartF v' B hi (3 * n) 56 M') (hk : Keeps (B + 1) hi v v') (h1 : w.heap.size ≤ B) (h2 : u.heap.size ≤ B) (hx : hi ≤ bx) (hb : hi ≤ bg) (hl : hi ≤ lo) (hg : hi ≤ Bg) : Sk w u v' Cp Cx Tp Tx n B hi bx M' Cg Tg ag Bg lo hig N bg Mg :=
  ⟨h.old.trans (hk.bel.mono (by omega)), h.mid.trans (hk.bel.mono (by omega)), hk.atLowX h.par (by omega), hk.atTopX h.x0 hx, hm, hk.atTopX h.g0 hb, h.gn.keepsX hk hl hg⟩

theorem Sk.markG (h : Sk w u v Cp Cx Tp Tx n B hi bx M Cg Tg ag Bg lo hig N bg Mg) (hm : NetG v' ag Bg lo hig N Mg') (hk : Keeps lo hig v v') (h1 : w.heap.size < lo) (h2 : u.heap.size ≤ lo) (hx : bx < lo) (hB : B < lo) (hh : hi ≤ lo) (hb : hig ≤ bg) : Sk w u v' Cp Cx Tp Tx n B hi bx M Cg Tg ag Bg lo hig N bg Mg' :=
  ⟨h.old.trans (hk.bel.mono (by omega)), h.mid.trans (hk.bel.mono h2), hk.atLowX h.par h1, hk.atLowX h.x0 hx, h.net.lowX hk.bel hB hh, hk.atTopX h.g0 hb, hm⟩
end

/-- Both answer the same net, good or the zero one. -/
theorem short_pack (p : Int) (n : Nat) (L : List (List Int)) (s t : Int) (hs : sizeN n L ≤ 1048576) (hlen : L.length = 3 * n) : ∃ (g : Bool) (P : Int) (N : Nat) (K : List (List Int)), Hid (K.length = 3 * N ∧ sizeN N K ≤ 1048576 ∧ cntF (fun j => K.getD j []) (3 * N) ≤ 1048576) ∧ N ≤ 1048576 ∧
    Hid (∀ (a : Option Addr) (c : Nat) (w : World), Lists w a (3 * n) L → Calls Try.prog 28 #[.agg #[.int .i64 p, .slice a n c, .int .i64 s, .int .i64 t]] w fun e w' => ∃ a c, e = .returned (.tuple #[.agg #[.int .i64 P, .slice a N c], .bool g]) ∧ Lists w' a (3 * N) K ∧ Below w.heap.size w w') ∧
    Hid (∀ (a : Option Addr) (c : Nat) (w : World), Lists w a (3 * n) L → Calls Try.prog 29 #[.agg #[.int .i64 p, .slice a n c, .int .i64 s, .int .i64 t]] w fun e w' => ∃ a B lo hi c, e = .returned (.tuple #[.agg #[.int .i64 P, .slice a N c], .bool g]) ∧ NetG w' a B lo hi N (fun j => K.getD j []) ∧ w.heap.size ≤ B ∧ w.heap.size ≤ lo ∧ hi ≤ w'.heap.size ∧ lo ≤ w'.heap.size ∧ Below w.heap.size w w') := by
  cases hg : shortOk p n L s t
  · refine ⟨false, 0, 0, [], ⟨rfl, by decide, by decide⟩, by decide, fun a c w hl => ?_, fun a c w hl => ?_⟩
    · refine (shortS_any p s t a n c L w hl hs).mono ?_
      rw [hg]
      rintro e w' ⟨a', c', rfl, _, hb⟩
      exact ⟨a', c', rfl, ⟨rfl, .inl rfl⟩, hb⟩
    · refine (shortI_any p s t a n c L w hl hs).mono ?_
      rw [hg]
      rintro e w' ⟨a', c', rfl, _, hb⟩
      exact ⟨a', w.heap.size, w.heap.size, w.heap.size, c', rfl, .inl rfl, Nat.le_refl _, Nat.le_refl _, hb.size, hb.size, hb⟩
  · have hok : netOk p n L = true := by
      unfold shortOk at hg
      rw [Bool.and_eq_true] at hg
      exact (wayOk_parts (flowOk_parts hg.1).1).1
    have hn24 := (netOk_parts hok).2.1
    have hz := shortSize (s := s) (t := t) hok hlen
    have hK := shortL_len (s := s) (t := t) hlen
    refine ⟨true, p, n + 1, shortL L s t, ⟨hK, hz, by rw [cntF_all hK]; unfold sizeN at hz; omega⟩, by omega, fun a c w hl => ?_, fun a c w hl => ?_⟩
    · refine (shortS_any p s t a n c L w hl hs).mono ?_
      rw [hg]
      rintro e w' ⟨a', c', rfl, h1, hb⟩
      exact ⟨a', c', rfl, h1 rfl, hb⟩
    · refine (shortI_any p s t a n c L w hl hs).mono ?_
      rw [hg]
      rintro e w' ⟨a', c', rfl, h1, hb⟩
      obtain ⟨a2, B, c2, he, hB, hng⟩ := (h1 rfl).netG
      obtain ⟨rfl, rfl⟩ : a2 = a' ∧ c2 = c' := by simp at he; exact ⟨he.1.symm, he.2.symm⟩
      exact ⟨a2, B, w.heap.size, w'.heap.size, c2, rfl, hng, by omega, Nat.le_refl _, Nat.le_refl _, hb.size, hb⟩
end Go.Proofs.Ytnknhjiofpjbbaa
