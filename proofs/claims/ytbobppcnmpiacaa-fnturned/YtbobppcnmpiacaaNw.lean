/- What a law over several nets keeps in mind; TurnNet of both over nets that are merely read. -/
import Derived.Test.YtbobppcnmpiacaaSp2
import Derived.Test.YtbobppcnmpiacaaTw
import Derived.Test.YtbobppcnmpiacaaTz
import Derived.Test.YtbobppcnmpiacaaSe
import Derived.Test.YtbobppcnmpiacaaDn
import Derived.Test.YtbobppcnmpiacaaDv
import Derived.Test.YtbobppcnmpiacaaFi
import Derived.Test.YtbobppcnmpiacaaGm
namespace Go.Proofs.Ytbobppcnmpiacaa
open Go.RowKit
set_option maxRecDepth 10000

structure Nst (w v : World) (nets : List (Nat × Int × Option Addr × Nat × Nat × List (List Int))) (rows : List (Option Addr × Nat × List Int)) (ma : Option Addr) (mn : Nat) (cs : List Int) : Prop where
  old : Below w.heap.size w v
  nets : ∀ t ∈ nets, v.heap[t.1]? = some (.cells #[.int .i64 t.2.1, .slice t.2.2.1 t.2.2.2.1 t.2.2.2.2.1] 26 (0, 0)) ∧ Lists v t.2.2.1 (3 * t.2.2.2.1) t.2.2.2.2.2
  rows : Rs v rows
  more : RowB v ma mn cs

section
variable {w v v' : World} {nets : List (Nat × Int × Option Addr × Nat × Nat × List (List Int))} {rows : List (Option Addr × Nat × List Int)} {ma : Option Addr} {mn : Nat} {cs : List Int}

theorem Nst.grow (h : Nst w v nets rows ma mn cs) (hb : Below v.heap.size v v') : Nst w v' nets rows ma mn cs :=
  ⟨h.old.trans (hb.mono h.old.size), fun t ht => ⟨keep (h.nets t ht).1 hb, (h.nets t ht).2.below hb⟩, h.rows.below hb, h.more.below hb⟩

theorem Nst.add (h : Nst w v nets rows ma mn cs) {b : Option Addr} {n : Nat} {xs : List Int} (hr : Row v b n xs) : Nst w v nets ((b, n, xs) :: rows) ma mn cs := ⟨h.old, h.nets, Rs.cons hr h.rows, h.more⟩

/-- A net more, in a variable of its own. -/
theorem Nst.net (h : Nst w v nets rows ma mn cs) (pl : Int) {a : Option Addr} {k : Nat} (c : Nat) {L : List (List Int)} (hl : Lists v a (3 * k) L) : Nst w (v.alloc (.cells #[.int .i64 pl, .slice a k c] 26)) ((v.heap.size, pl, a, k, c, L) :: nets) rows ma mn cs := by
  have hA := below_al v (.cells #[.int .i64 pl, .slice a k c] 26)
  have h' := h.grow hA
  refine ⟨h'.old, fun t ht => ?_, h'.rows, h'.more⟩
  rcases List.mem_cons.mp ht with rfl | ht
  · exact ⟨heap_alloc_new _ _, hl.below hA⟩
  · exact h'.nets t ht

theorem Nst.at (h : Nst w v nets rows ma mn cs) (V : Nat) (pl : Int) (a : Option Addr) (k c : Nat) (L : List (List Int)) (hm : (V, pl, a, k, c, L) ∈ nets) : (v.cell? ⟨V, 0, none⟩ = some (.int .i64 pl) ∧ v.cell? ⟨V, 1, none⟩ = some (.slice a k c)) ∧ Lists v a (3 * k) L := by
  obtain ⟨h1, h2⟩ := h.nets _ hm
  exact ⟨cells2 h1, h2⟩
end

/-- Both answer the same net, good or the zero one. -/
theorem turn_pack2 (p : Int) (n : Nat) (L : List (List Int)) (hs : sizeN n L ≤ 1048576) : ∃ (g : Bool) (P : Int) (N : Nat) (K : List (List Int)), Hid (K.length = 3 * N ∧ sizeN N K ≤ 1048576) ∧ Hid (g = true → P = p ∧ N = n ∧ K = turnL n L ∧ turnOk p n L = true) ∧
    Hid (∀ (a : Option Addr) (c : Nat) (w : World), Lists w a (3 * n) L → Calls Try.prog 21 #[.agg #[.int .i64 p, .slice a n c]] w fun e w' => ∃ a c, e = .returned (.tuple #[.agg #[.int .i64 P, .slice a N c], .bool g]) ∧ Lists w' a (3 * N) K ∧ Below w.heap.size w w') ∧
    Hid (∀ (a : Option Addr) (c : Nat) (w : World), Lists w a (3 * n) L → Calls Try.prog 20 #[.agg #[.int .i64 p, .slice a n c]] w fun e w' => ∃ a c, e = .returned (.tuple #[.agg #[.int .i64 P, .slice a N c], .bool g]) ∧ Lists w' a (3 * N) K ∧ Below w.heap.size w w') := by
  cases hg : turnOk p n L
  · refine ⟨false, 0, 0, [], ⟨rfl, by decide⟩, fun h => by simp at h, fun a c w hl => ?_, fun a c w hl => ?_⟩
    · refine (turnS2_any p a n c L w hl hs).mono ?_
      rw [hg]
      rintro e w' ⟨a', c', rfl, _, hb⟩
      exact ⟨a', c', rfl, ⟨rfl, .inl rfl⟩, hb⟩
    · refine (turnI_any p a n c L w hl hs).mono ?_
      rw [hg]
      rintro e w' ⟨a', B', lo, hi, c', rfl, _, h3, h1, h2, hb⟩
      exact ⟨a', c', rfl, ⟨rfl, .inl rfl⟩, hb⟩
  · have hz := turnL_size (turn_parts hg).1
    refine ⟨true, p, n, turnL n L, ⟨turnL_len n L, hz⟩, fun _ => ⟨rfl, rfl, rfl, rfl⟩, fun a c w hl => ?_, fun a c w hl => ?_⟩
    · refine (turnS2_any p a n c L w hl hs).mono ?_
      rw [hg]
      rintro e w' ⟨a', c', rfl, h1, hb⟩
      exact ⟨a', c', rfl, h1 rfl, hb⟩
    · refine (turnI_any p a n c L w hl hs).mono ?_
      rw [hg]
      rintro e w' ⟨a', B', lo, hi, c', rfl, h0, h3, h1, h2, hb⟩
      exact ⟨a', c', rfl, by have := h0 rfl; rw [← turnL_get] at this; exact this.lists (turnL_len n L) hz, hb⟩

/-- A turned net is turned back. -/
theorem turnBack_any (p : Int) (a : Option Addr) (n c : Nat) (L : List (List Int)) (w : World) (hg : turnOk p n L = true) (hlen : L.length = 3 * n) (hs : sizeN n L ≤ 1048576) (hl : Lists w a (3 * n) (turnL n L)) :
    Calls Try.prog 20 #[.agg #[.int .i64 p, .slice a n c]] w fun e w' => ∃ a' c', e = .returned (.tuple #[.agg #[.int .i64 p, .slice a' n c'], .bool true]) ∧ Lists w' a' (3 * n) L ∧ Below w.heap.size w w' := by
  refine (turnI_any p a n c (turnL n L) w hl (turnL_size (turn_parts hg).1)).mono ?_
  rw [turn_back hg hlen]
  rintro e w' ⟨a', B', lo, hi, c', rfl, h0, h3, h1, h2, hb⟩
  refine ⟨a', c', rfl, ?_, hb⟩
  have := h0 rfl
  rw [← turnL_get, turn_turn hg hlen] at this
  exact this.lists hlen hs

theorem atR_len (f : Nat → Bool) (p : Int) (n : Nat) (L : List (List Int)) (t : Int) : (atR f p n L t).length ≤ n := by
  unfold atR; split
  · exact numsL_len _ _
  · exact Nat.zero_le _

theorem fireR_len (p : Int) (n : Nat) (L : List (List Int)) (ys : List Int) (t : Int) : (fireR p n L ys t).length ≤ ys.length := by
  unfold fireR; split
  · unfold firedL; rw [fireL_len]; exact Nat.le_refl _
  · exact Nat.zero_le _
end Go.Proofs.Ytbobppcnmpiacaa
