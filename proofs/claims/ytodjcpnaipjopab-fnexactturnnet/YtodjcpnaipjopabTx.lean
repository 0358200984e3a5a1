/- TurnNet of both, told alike; what the law keeps in mind. -/
import Derived.Test.YtodjcpnaipjopabTw
import Derived.Test.YtodjcpnaipjopabSp
import Derived.Test.YtodjcpnaipjopabOn
namespace Go.Proofs.Ytodjcpnaipjopab
open Go.RowKit

theorem NetG.lower {w : World} {a : Option Addr} {B lo lo' hi n : Nat} {M : Nat → List Int} (h : NetG w a B lo hi n M) (hl : lo' ≤ lo) : NetG w a B lo' hi n M := by
  rcases h with h0 | ⟨e, C, A, f, cap, h1, h2, h3, h4⟩
  · exact .inl h0
  · refine .inr ⟨e, C, A, f, cap, h1, h2, fun j hj => ?_, h4⟩
    obtain ⟨q1, q2, q3⟩ := h3 j hj
    exact ⟨q1, q2, fun hm => ⟨Nat.le_trans hl (q3 hm).1, (q3 hm).2⟩⟩

/-- Both answer the same net, good or the zero one. -/
theorem turn_pack (p : Int) (n : Nat) (L : List (List Int)) (hs : sizeN n L ≤ 1048576) (hlen : L.length = 3 * n) : ∃ (g : Bool) (P : Int) (N : Nat) (K : List (List Int)), Hid (K.length = 3 * N ∧ sizeN N K ≤ 1048576 ∧ cntF (fun j => K.getD j []) (3 * N) ≤ 1048576) ∧ N ≤ 1048576 ∧
    Hid (∀ (B hi c : Nat) (w : World), PartF w B hi (3 * n) 55 (fun j => L.getD j []) → Calls Try.prog 10 #[.agg #[.int .i64 p, .slice (some ⟨B, 0, none⟩) n c]] w fun e w' => ∃ a c, e = .returned (.tuple #[.agg #[.int .i64 P, .slice a N c], .bool g]) ∧ Lists w' a (3 * N) K ∧ Below w.heap.size w w') ∧
    Hid (∀ (a : Option Addr) (c : Nat) (w : World), Lists w a (3 * n) L → Calls Try.prog 11 #[.agg #[.int .i64 p, .slice a n c]] w fun e w' => ∃ a B lo hi c, e = .returned (.tuple #[.agg #[.int .i64 P, .slice a N c], .bool g]) ∧ NetG w' a B lo hi N (fun j => K.getD j []) ∧ w.heap.size ≤ B ∧ w.heap.size ≤ lo ∧ hi ≤ w'.heap.size ∧ lo ≤ w'.heap.size ∧ Below w.heap.size w w') := by
  cases hg : turnOk p n L
  · refine ⟨false, 0, 0, [], ⟨rfl, by decide, by decide⟩, by decide, fun B hi c w hp => ?_, fun a c w hl => ?_⟩
    · refine (turnS_any p B hi n c L w hp hlen hs).mono ?_
      rw [hg]
      rintro e w' ⟨a', c', rfl, _, hb⟩
      exact ⟨a', c', rfl, ⟨rfl, .inl rfl⟩, hb⟩
    · refine (turnI_any p a n c L w hl hs).mono ?_
      rw [hg]
      rintro e w' ⟨a', B', lo, hi, c', rfl, _, h3, h1, h2, hb⟩
      exact ⟨a', B', w.heap.size, hi, c', rfl, .inl rfl, h3, Nat.le_refl _, h2, hb.size, hb⟩
  · have hok : netOk p n L = true := by unfold turnOk at hg; simp only [Bool.and_eq_true] at hg; exact hg.1.1
    have hz := turnL_size hok
    have hn := netN hok
    refine ⟨true, p, n, turnL n L, ⟨turnL_len n L, hz, ?_⟩, by omega, fun B hi c w hp => ?_, fun a c w hl => ?_⟩
    · rw [cntF_all (turnL_len n L)]; unfold sizeN at hz; omega
    · refine (turnS_any p B hi n c L w hp hlen hs).mono ?_
      rw [hg]
      rintro e w' ⟨a', c', rfl, h1, hb⟩
      exact ⟨a', c', rfl, h1 rfl, hb⟩
    · refine (turnI_any p a n c L w hl hs).mono ?_
      rw [hg]
      rintro e w' ⟨a', B', lo, hi, c', rfl, h0, h3, h1, h2, hb⟩
      exact ⟨a', B', w.heap.size, hi, c', rfl, by rw [turnL_get]; exact (h0 rfl).lower h1, h3, Nat.le_refl _, h2, hb.size, hb⟩

theorem NetG.grow {w w' : World} {a : Option Addr} {B lo hi n : Nat} {M : Nat → List Int} (h : NetG w a B lo hi n M) (hb : Below w.heap.size w w') : NetG w' a B lo hi n M := by
  rcases h with h0 | ⟨e, hp⟩
  · exact .inl h0
  · exact .inr ⟨e, hp.grow hb⟩

theorem NetG.keeps {w w' : World} {a : Option Addr} {B lo hi n lo' hi' : Nat} {M : Nat → List Int} (h : NetG w a B lo hi n M) (hk : Keeps lo' hi' w w') (h1 : hi' ≤ lo) (h2 : hi' ≤ B) : NetG w' a B lo hi n M := by
  rcases h with h0 | ⟨e, hp⟩
  · exact .inl h0
  · exact .inr ⟨e, hp.keeps hk h1 h2⟩

theorem Keeps.atTop {lo hi : Nat} {w w' : World} (h : Keeps lo hi w w') {b : Nat} {o : Obj} (hb : w.heap[b]? = some o) (hh : hi ≤ b) : w'.heap[b]? = some o := (h.top b hh (Array.getElem?_eq_some_iff.mp hb).1).trans hb
theorem Keeps.atLow {lo hi : Nat} {w w' : World} (h : Keeps lo hi w w') {b : Nat} {o : Obj} (hb : w.heap[b]? = some o) (hh : b < lo) : w'.heap[b]? = some o := (h.bel.block b hh).trans hb

structure Su (w u v : World) (p : Int) (a : Option Addr) (n c B hi bx : Nat) (M : Nat → List Int) (P : Int) (ag : Option Addr) (Bg lo hig N cg bg : Nat) (Mg : Nat → List Int) : Prop where
  old : Below w.heap.size w v
  mid : Below u.heap.size u v
  par : v.heap[w.heap.size]? = some (.cells #[.int .i64 p, .slice a n c] 24 (0, 0))
  x0 : v.heap[bx]? = some (.cells #[.int .i64 p, .slice (some ⟨B, 0, none⟩) n n] 30 (0, 0))
  net : PartF v B hi (3 * n) 55 M
  g0 : v.heap[bg]? = some (.cells #[.int .i64 P, .slice ag N cg] 30 (0, 0))
  gn : NetG v ag Bg lo hig N Mg

section
variable {w u v v' : World} {p : Int} {a : Option Addr} {n c B hi bx : Nat} {M M' : Nat → List Int} {P : Int} {ag : Option Addr} {Bg lo hig N cg bg : Nat} {Mg Mg' : Nat → List Int}

theorem Su.grow (h : Su w u v p a n c B hi bx M P ag Bg lo hig N cg bg Mg) (hb : Below v.heap.size v v') : Su w u v' p a n c B hi bx M P ag Bg lo hig N cg bg Mg :=
  ⟨h.old.trans (hb.mono h.old.size), h.mid.trans (hb.mono h.mid.size), keep h.par hb, keep h.x0 hb, h.net.grow hb, keep h.g0 hb, h.gn.grow hb⟩

theorem Su.markN (h : Su w u v p a n c B hi bx M P ag Bg lo hig N cg bg Mg) (hm : PartF v' B hi (3 * n) 55 M') (hk : Keeps (B + 1) hi v v') (h1 : w.heap.size ≤ B) (h2 : u.heap.size ≤ B) (hx : hi ≤ bx) (hb : hi ≤ bg) (hl : hi ≤ lo) (hg : hi ≤ Bg) : Su w u v' p a n c B hi bx M' P ag Bg lo hig N cg bg Mg :=
  ⟨h.old.trans (hk.bel.mono (by omega)), h.mid.trans (hk.bel.mono (by omega)), hk.atLow h.par (by omega), hk.atTop h.x0 hx, hm, hk.atTop h.g0 hb, h.gn.keeps hk hl hg⟩

theorem PartF.low {w w' : World} {B hi n lo : Nat} {T : TypeId} {M : Nat → List Int} (h : PartF w B hi n T M) (hb : Below lo w w') (hB : B < lo) (hh : hi ≤ lo) : PartF w' B hi n T M := by
  obtain ⟨C, f, h1, h2, h3, h4⟩ := h
  refine ⟨C, f, (hb.block B hB).trans h1, h2, fun j hj => ?_, h4⟩
  obtain ⟨e1, e2, e3, e4⟩ := h3 j hj
  refine ⟨e1, e2, e3, e4.1, ?_⟩
  rcases e4.2 with h0 | ⟨e, hh'⟩
  · exact .inl h0
  · exact .inr ⟨e, (hb.block _ (by omega)).trans hh'⟩

theorem Su.markG (h : Su w u v p a n c B hi bx M P ag Bg lo hig N cg bg Mg) (hm : NetG v' ag Bg lo hig N Mg') (hk : Keeps lo hig v v') (h1 : w.heap.size < lo) (h2 : u.heap.size ≤ lo) (hx : bx < lo) (hB : B < lo) (hh : hi ≤ lo) (hb : hig ≤ bg) : Su w u v' p a n c B hi bx M P ag Bg lo hig N cg bg Mg' :=
  ⟨h.old.trans (hk.bel.mono (by omega)), h.mid.trans (hk.bel.mono h2), hk.atLow h.par h1, hk.atLow h.x0 hx, h.net.low hk.bel hB hh, hk.atTop h.g0 hb, hm⟩
end
end Go.Proofs.Ytodjcpnaipjopab
