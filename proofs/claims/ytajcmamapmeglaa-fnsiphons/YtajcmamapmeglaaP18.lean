/- Contracts that the proof stands on, one behind the other. -/
import Derived.Test.YtajcmamapmeglaaP17
/- A region that draws its order, some of whose operations make memory: all orders at once, by what holds of those that are done. -/
namespace Go.Proofs.Ytajcmamapmeglaa
open Go.RowKit
set_option maxRecDepth 10000

/-- Those of R for which p holds are done. -/
def lstD (l0 : Array Bool) : List Nat → (Nat → Bool) → Array Bool
  | [], _ => l0
  | i :: R, p => if p i then (lstD l0 R p).setIfInBounds i true else lstD l0 R p

/-- The frame in which those of R for which p holds have yielded x. -/
def frmD (D : Nat → Tmp) (a0 : Act) : List Nat → (Nat → Bool) → (Nat → Value) → Act
  | [], _, _ => a0
  | i :: R, p, x => if p i then (frmD D a0 R p x).put (some (D i)) (x i) else frmD D a0 R p x

def upB (p : Nat → Bool) (i : Nat) : Nat → Bool := fun j => if j = i then true else p j
def upV (x : Nat → Value) (i : Nat) (v : Value) : Nat → Value := fun j => if j = i then v else x j

theorem lstD_congr {l0 : Array Bool} {R : List Nat} {p q : Nat → Bool} (h : ∀ i ∈ R, p i = q i) : lstD l0 R p = lstD l0 R q := by
  induction R with
  | nil => rfl
  | cons i R ih =>
    unfold lstD
    rw [h i (by simp), ih fun j hj => h j (by simp [hj])]

theorem frmD_congr {D : Nat → Tmp} {a0 : Act} {R : List Nat} {p q : Nat → Bool} {x y : Nat → Value} (h : ∀ i ∈ R, p i = q i ∧ x i = y i) : frmD D a0 R p x = frmD D a0 R q y := by
  induction R with
  | nil => rfl
  | cons i R ih =>
    unfold frmD
    rw [(h i (by simp)).1, (h i (by simp)).2, ih fun j hj => h j (by simp [hj])]

theorem put_commD (a : Act) {d e : Tmp} (h : d ≠ e) (u v : Value) : (a.put (some d) u).put (some e) v = (a.put (some e) v).put (some d) u := by
  unfold Act.put
  simp only
  rw [Array.setIfInBounds_comm _ _ h]

theorem lstD_set {l0 : Array Bool} {R : List Nat} {p : Nat → Bool} {i : Nat} (hn : R.Nodup) (hi : i ∈ R) (hp : p i = false) : (lstD l0 R p).setIfInBounds i true = lstD l0 R (upB p i) := by
  induction R with
  | nil => simp at hi
  | cons j R ih =>
    obtain ⟨hj, hn'⟩ := List.nodup_cons.1 hn
    by_cases hij : i = j
    · subst hij
      have e : lstD l0 R (upB p i) = lstD l0 R p := lstD_congr fun k hk => by
        have hki : k ≠ i := fun e => hj (by rw [← e]; exact hk)
        unfold upB; rw [if_neg hki]
      unfold lstD
      rw [if_neg (by rw [hp]; simp), if_pos (by simp [upB]), e]
    · have hi' : i ∈ R := by rcases List.mem_cons.1 hi with h | h; exact absurd h hij; exact h
      have e : upB p i j = p j := by unfold upB; rw [if_neg (fun e => hij e.symm)]
      unfold lstD
      rw [e, ← ih hn' hi']
      split
      · rw [Array.setIfInBounds_comm _ _ (fun e => hij e.symm)]
      · rfl

theorem frmD_set {D : Nat → Tmp} {a0 : Act} {R : List Nat} {p : Nat → Bool} {x : Nat → Value} {i : Nat} {v : Value} (hn : R.Nodup) (hD : ∀ i ∈ R, ∀ j ∈ R, D i = D j → i = j) (hi : i ∈ R) (hp : p i = false) : (frmD D a0 R p x).put (some (D i)) v = frmD D a0 R (upB p i) (upV x i v) := by
  induction R with
  | nil => simp at hi
  | cons j R ih =>
    obtain ⟨hj, hn'⟩ := List.nodup_cons.1 hn
    by_cases hij : i = j
    · subst hij
      have e : frmD D a0 R (upB p i) (upV x i v) = frmD D a0 R p x := frmD_congr fun k hk => by
        have hki : k ≠ i := fun e => hj (by rw [← e]; exact hk)
        unfold upB upV; rw [if_neg hki, if_neg hki]; exact ⟨rfl, rfl⟩
      unfold frmD
      rw [if_neg (by rw [hp]; simp), if_pos (by simp [upB]), e]
      simp [upV]
    · have hi' : i ∈ R := by rcases List.mem_cons.1 hi with h | h; exact absurd h hij; exact h
      have e : upB p i j = p j := by unfold upB; rw [if_neg (fun e => hij e.symm)]
      have e' : upV x i v j = x j := by unfold upV; rw [if_neg (fun e => hij e.symm)]
      unfold frmD
      rw [e, e', ← ih hn' (fun a ha b hb => hD a (by simp [ha]) b (by simp [hb])) hi']
      split
      · rw [put_commD _ (fun e => hij (hD i (by simp [hi']) j (by simp) e.symm))]
      · rfl

theorem frmD_other {D : Nat → Tmp} {a0 : Act} {R : List Nat} {p : Nat → Bool} {x : Nat → Value} {t : Tmp} (h : ∀ i ∈ R, D i ≠ t) : (frmD D a0 R p x).eval (.tmp t) = a0.eval (.tmp t) := by
  induction R with
  | nil => rfl
  | cons i R ih =>
    unfold frmD
    split
    · rw [← ih fun j hj => h j (by simp [hj])]
      have := h i (by simp)
      show (Array.setIfInBounds _ _ _).getD t undef = _
      simp [Act.eval, Array.getD_eq_getD_getElem?, this]
    · exact ih fun j hj => h j (by simp [hj])

theorem frmD_size {D : Nat → Tmp} {a0 : Act} {R : List Nat} {p : Nat → Bool} {x : Nat → Value} : (frmD D a0 R p x).tmps.size = a0.tmps.size := by
  induction R with
  | nil => rfl
  | cons i R ih =>
    unfold frmD
    split
    · rw [← ih]; simp [Act.put]
    · exact ih

theorem frmD_at {D : Nat → Tmp} {a0 : Act} {R : List Nat} {p : Nat → Bool} {x : Nat → Value} {i : Nat} (hD : ∀ i ∈ R, ∀ j ∈ R, D i = D j → i = j) (hn : R.Nodup) (hi : i ∈ R) (hp : p i = true) (hs : D i < a0.tmps.size) : (frmD D a0 R p x).eval (.tmp (D i)) = x i := by
  induction R with
  | nil => simp at hi
  | cons j R ih =>
    obtain ⟨hj, hn'⟩ := List.nodup_cons.1 hn
    by_cases hij : i = j
    · subst hij
      unfold frmD
      rw [if_pos hp]
      show (Array.setIfInBounds _ _ _).getD _ undef = _
      have : D i < (frmD D a0 R p x).tmps.size := by rw [frmD_size]; exact hs
      simp [Array.getD_eq_getD_getElem?, this]
    · have hi' : i ∈ R := by rcases List.mem_cons.1 hi with h | h; exact absurd h hij; exact h
      have h' := ih (fun a ha b hb => hD a (by simp [ha]) b (by simp [hb])) hn' hi'
      unfold frmD
      split
      · rw [← h']
        have : D j ≠ D i := fun e => hij (hD i (by simp [hi']) j (by simp) e.symm)
        show (Array.setIfInBounds _ _ _).getD _ undef = _
        simp [Act.eval, Array.getD_eq_getD_getElem?, this]
      · exact h'

def subsD : List Nat → List (List Nat)
  | [] => [[]]
  | i :: R => (subsD R).map (i :: ·) ++ subsD R

theorem filter_subsD (R : List Nat) (p : Nat → Bool) : R.filter p ∈ subsD R := by
  induction R with
  | nil => simp [subsD]
  | cons i R ih =>
    unfold subsD
    rw [List.filter_cons]
    split
    · exact List.mem_append_left _ (List.mem_map.2 ⟨_, ih, rfl⟩)
    · exact List.mem_append_right _ ih

/-- What can come up next, whatever is done. -/
def chkD (md : Region.Mode) (ops : Array Oper) (l0 : Array Bool) (R : List Nat) (dep : Nat → List Nat) : Bool :=
  (subsD R).all fun T => !(T.all fun i => (dep i).all (T.contains ·)) || (R.all (T.contains ·)) ||
    (Region.ready md ops (lstD l0 R (T.contains ·)) == R.filter (fun i => !T.contains i && (dep i).all (T.contains ·)) &&
      !(R.filter (fun i => !T.contains i && (dep i).all (T.contains ·))).isEmpty)

theorem chkD_at {md : Region.Mode} {ops : Array Oper} {l0 : Array Bool} {R : List Nat} {dep : Nat → List Nat} (h : chkD md ops l0 R dep = true) (hdep : ∀ i ∈ R, ∀ j ∈ dep i, j ∈ R) (p : Nat → Bool) (hc : ∀ i ∈ R, p i = true → ∀ j ∈ dep i, p j = true) (hex : ∃ i ∈ R, p i = false) :
    Region.ready md ops (lstD l0 R p) = R.filter (fun i => !p i && (dep i).all p) ∧ R.filter (fun i => !p i && (dep i).all p) ≠ [] := by
  have hT := List.all_eq_true.1 h _ (filter_subsD R p)
  have hin : ∀ i ∈ R, (R.filter p).contains i = p i := fun i hi => by
    cases hp : p i
    · rw [List.contains_eq_mem, decide_eq_false_iff_not]; intro e; have := (List.mem_filter.1 e).2; rw [hp] at this; cases this
    · rw [List.contains_eq_mem, decide_eq_true_iff]; exact List.mem_filter.2 ⟨hi, hp⟩
  have hda : ∀ i ∈ R, (dep i).all ((R.filter p).contains ·) = (dep i).all p := fun i hi => by
    rw [Bool.eq_iff_iff, List.all_eq_true, List.all_eq_true]
    exact forall_congr' fun j => forall_congr' fun hj => by rw [hin j (hdep i hi j hj)]
  have hcl : ((R.filter p).all fun i => (dep i).all ((R.filter p).contains ·)) = true := by
    rw [List.all_eq_true]
    intro i hi
    obtain ⟨hi, hp⟩ := List.mem_filter.1 hi
    rw [hda i hi, List.all_eq_true]
    exact fun j hj => hc i hi hp j hj
  have hf : R.filter (fun i => !(R.filter p).contains i && (dep i).all ((R.filter p).contains ·)) = R.filter (fun i => !p i && (dep i).all p) := by
    apply List.filter_congr
    intro i hi
    rw [hin i hi, hda i hi]
  have hl : lstD l0 R ((R.filter p).contains ·) = lstD l0 R p := lstD_congr hin
  have hna : (R.all ((R.filter p).contains ·)) = false := by
    obtain ⟨i, hi, hp⟩ := hex
    rw [List.all_eq_false]
    exact ⟨i, hi, by rw [hin i hi, hp]; simp⟩
  rw [hcl, hf, hl, hna] at hT
  simp only [Bool.not_true, Bool.false_or, Bool.and_eq_true, beq_iff_eq, Bool.not_eq_true', List.isEmpty_eq_false_iff] at hT
  exact hT

section
variable {P : Program} {ops : Array Oper} {Q : Exit → Act → World → Prop} {md : Region.Mode} {S : World → Prop}

/-- All orders in which R's operations come up. I: what holds of those that are done, p, of what they yielded, x, and of the world. -/
theorem any_set (R : List Nat) (D : Nat → Tmp) (dep : Nat → List Nat) (I : (Nat → Bool) → (Nat → Value) → World → Prop) {fuel : Nat} {l0 : Array Bool} {a0 : Act} {w : World} (x0 : Nat → Value)
    (hn : R.Nodup) (hD : ∀ i ∈ R, ∀ j ∈ R, D i = D j → i = j) (hdep : ∀ i ∈ R, ∀ j ∈ dep i, j ∈ R) (hds : ∀ i ∈ R, ∃ o, ops[i]? = some o ∧ o.dst = some (D i) ∧ o.guard = none) (hck : chkD md ops l0 R dep = true) (hS : ∀ p x w, I p x w → S w)
    (step : ∀ i ∈ R, ∀ (p : Nat → Bool) (x : Nat → Value) (w : World) (o : Oper), ops[i]? = some o → p i = false → (∀ j ∈ dep i, p j = true) → I p x w → ∀ K : Act → World → Prop, (∀ v w', I (upB p i) (upV x i v) w' → K ((frmD D a0 R p x).put (some (D i)) v) w') → Oper.wp P o (frmD D a0 R p x) w K Q)
    (h0 : I (fun _ => false) x0 w) (fin : ∀ x w, I (fun i => R.contains i) x w → wpAnyH P md ops Q S fuel (lstD l0 R (fun _ => true)) (frmD D a0 R (fun _ => true) x) w) :
    wpAnyH P md ops Q S (fuel + R.length) l0 a0 w := by
  have main : ∀ (m : Nat) (p : Nat → Bool) (x : Nat → Value) (w : World), (R.filter (fun i => !p i)).length = m → (∀ i, p i = true → i ∈ R) → (∀ i ∈ R, p i = true → ∀ j ∈ dep i, p j = true) → I p x w → wpAnyH P md ops Q S (fuel + m) (lstD l0 R p) (frmD D a0 R p x) w := by
    intro m
    induction m with
    | zero =>
      intro p x w hm hpR hc hI
      have hall : ∀ i ∈ R, p i = true := fun i hi => by
        cases hp : p i
        · have : i ∈ R.filter (fun i => !p i) := List.mem_filter.2 ⟨hi, by rw [hp]; rfl⟩
          rw [List.length_eq_zero_iff.1 hm] at this
          simp at this
        · rfl
      have e1 : p = fun i => R.contains i := funext fun i => by
        by_cases hi : i ∈ R
        · rw [hall i hi]; simp [hi]
        · have : p i = false := by cases hp : p i; rfl; exact absurd (hpR i hp) hi
          rw [this]; simp [hi]
      rw [lstD_congr (q := fun _ => true) hall, frmD_congr (q := fun _ => true) (y := x) fun i hi => ⟨hall i hi, rfl⟩]
      exact fin x w (e1 ▸ hI)
    | succ m ih =>
      intro p x w hm hpR hc hI
      have hex : ∃ i ∈ R, p i = false := by
        cases hf : R.filter (fun i => !p i) with
        | nil => rw [hf] at hm; simp at hm
        | cons i rs =>
          have : i ∈ R.filter (fun i => !p i) := by rw [hf]; simp
          obtain ⟨h1, h2⟩ := List.mem_filter.1 this
          exact ⟨i, h1, by simpa using h2⟩
      obtain ⟨hr, hne⟩ := chkD_at hck hdep p hc hex
      refine wpAnyH_ready hr hne ?_
      have all : ∀ rs : List Nat, (∀ i ∈ rs, i ∈ R ∧ p i = false ∧ ∀ j ∈ dep i, p j = true) → AllReadyH P md ops Q S (fuel + m) (lstD l0 R p) (frmD D a0 R p x) w rs := by
        intro rs
        induction rs with
        | nil => intro _; exact AllReadyH.nil
        | cons i rs ihr =>
          intro hrs
          obtain ⟨hi, hp, hd⟩ := hrs i (by simp)
          obtain ⟨o, ho, hod, hog⟩ := hds i hi
          refine AllReadyH.cons ho (fun K hK => ?_) (ihr fun j hj => hrs j (by simp [hj]))
          rw [if_pos (by unfold Region.wanted; rw [hog])]
          refine step i hi p x w o ho hp hd hI K fun v w' hI' => ?_
          refine hK.out _ _ (hS _ _ _ hI') fun _ => ?_
          rw [lstD_set hn hi hp, frmD_set hn hD hi hp]
          refine ih (upB p i) (upV x i v) w' ?_ ?_ ?_ hI'
          · have e : R.filter (fun j => !upB p i j) = (R.filter (fun j => !p j)).filter (fun j => !(j == i)) := by
              rw [List.filter_filter]
              apply List.filter_congr
              intro j _
              unfold upB
              by_cases hj : j = i
              · simp [hj]
              · simp [hj]
            have hmem : i ∈ R.filter (fun j => !p j) := List.mem_filter.2 ⟨hi, by rw [hp]; rfl⟩
            have hnd : (R.filter (fun j => !p j)).Nodup := hn.filter _
            have e2 : (R.filter (fun j => !p j)).filter (fun j => !(j == i)) = (R.filter (fun j => !p j)).erase i := by
              rw [hnd.erase_eq_filter]; rfl
            rw [e, e2, List.length_erase_of_mem hmem, hm]; rfl
          · intro j hj
            unfold upB at hj
            by_cases hji : j = i
            · rw [hji]; exact hi
            · rw [if_neg hji] at hj; exact hpR j hj
          · intro j hj hpj q hq
            unfold upB at hpj ⊢
            by_cases hqi : q = i
            · rw [if_pos hqi]
            · rw [if_neg hqi]
              by_cases hji : j = i
              · subst hji; exact hd q hq
              · rw [if_neg hji] at hpj; exact hc j hj hpj q hq
      refine all _ fun i hi => ?_
      obtain ⟨h1, h2⟩ := List.mem_filter.1 hi
      rw [Bool.and_eq_true, Bool.not_eq_true', List.all_eq_true] at h2
      exact ⟨h1, h2.1, h2.2⟩
  have e0 : R.filter (fun i => !(fun _ => false : Nat → Bool) i) = R := by simp
  have h := main R.length (fun _ => false) x0 w (by rw [e0]) (fun i hi => by cases hi) (fun i _ hi => by cases hi) h0
  have el : ∀ R : List Nat, lstD l0 R (fun _ => false) = l0 := fun R => by induction R with | nil => rfl | cons i R ih => unfold lstD; simp [ih]
  have ef : ∀ R : List Nat, frmD D a0 R (fun _ => false) x0 = a0 := fun R => by induction R with | nil => rfl | cons i R ih => unfold frmD; simp [ih]
  rw [el, ef] at h
  exact h

/-- The same, where each operation's value is told by itself and stays when memory is made. -/
theorem any_make (R : List Nat) (D : Nat → Tmp) (dep : Nat → List Nat) (B : World) (G : Nat → Value → World → Prop) {fuel : Nat} {l0 : Array Bool} {a0 : Act} {w : World}
    (hmono : ∀ i v w w', G i v w → Below w.heap.size w w' → G i v w')
    (hn : R.Nodup) (hD : ∀ i ∈ R, ∀ j ∈ R, D i = D j → i = j) (hsz : (R.all fun i => decide (D i < a0.tmps.size)) = true) (hdep : ∀ i ∈ R, ∀ j ∈ dep i, j ∈ R) (hds : (R.all fun i => match ops[i]? with | some o => o.dst == some (D i) && o.guard.isNone | none => false) = true) (hck : chkD md ops l0 R dep = true) (hS : ∀ w, S w)
    (step : ∀ i ∈ R, ∀ (a : Act) (x : Nat → Value) (w : World) (o : Oper), ops[i]? = some o → (∀ t, (∀ j ∈ R, D j ≠ t) → a.eval (.tmp t) = a0.eval (.tmp t)) → (∀ j ∈ dep i, a.eval (.tmp (D j)) = x j ∧ G j (x j) w) → Below B.heap.size B w → ∀ K : Act → World → Prop, (∀ v w', G i v w' → Below w.heap.size w w' → K (a.put (some (D i)) v) w') → Oper.wp P o a w K Q)
    (h0 : Below B.heap.size B w) (fin : ∀ x w, Below B.heap.size B w → (∀ i ∈ R, G i (x i) w) → wpAnyH P md ops Q S fuel (lstD l0 R (fun _ => true)) (frmD D a0 R (fun _ => true) x) w) :
    wpAnyH P md ops Q S (fuel + R.length) l0 a0 w := by
  refine any_set R D dep (fun p x w => Below B.heap.size B w ∧ ∀ i ∈ R, p i = true → G i (x i) w) (fun _ => undef) hn hD hdep (fun i hi => ?_) hck (fun _ _ w _ => hS w) ?_ ⟨h0, fun i _ hi => by cases hi⟩ ?_
  · have h := List.all_eq_true.1 hds i hi
    cases ho : ops[i]? with
    | none => rw [ho] at h; simp at h
    | some o =>
      rw [ho] at h
      simp only [Bool.and_eq_true, beq_iff_eq, Option.isNone_iff_eq_none] at h
      exact ⟨o, rfl, h.1, h.2⟩
  · rintro i hi p x w o ho hp hd ⟨hb, hG⟩ K hK
    refine step i hi (frmD D a0 R p x) x w o ho (fun t ht => frmD_other ht) (fun j hj => ⟨?_, hG j (hdep i hi j hj) (hd j hj)⟩) hb K fun v w' hv hb' => hK v w' ⟨hb.trans (hb'.mono hb.size), fun j hj hpj => ?_⟩
    · exact frmD_at hD hn (hdep i hi j hj) (hd j hj) (of_decide_eq_true (List.all_eq_true.1 hsz j (hdep i hi j hj)))
    · unfold upV
      by_cases hji : j = i
      · rw [if_pos hji, hji]; exact hv
      · rw [if_neg hji]
        unfold upB at hpj
        rw [if_neg hji] at hpj
        exact hmono _ _ _ _ (hG j hj hpj) hb'
  · rintro x w ⟨hb, hG⟩
    exact fin x w hb fun i hi => hG i hi (by simp [hi])

/-- The same, where the world goes on by L and J holds of it all the way, whatever is done. -/
theorem any_go (R : List Nat) (D : Nat → Tmp) (dep : Nat → List Nat) (L : World → World → Prop) (J : (Nat → Bool) → World → Prop) (G : Nat → Value → World → Prop) {fuel : Nat} {l0 : Array Bool} {a0 : Act} {w : World}
    (hmono : ∀ i v w w', G i v w → L w w' → G i v w')
    (hn : R.Nodup) (hD : ∀ i ∈ R, ∀ j ∈ R, D i = D j → i = j) (hsz : (R.all fun i => decide (D i < a0.tmps.size)) = true) (hdep : ∀ i ∈ R, ∀ j ∈ dep i, j ∈ R) (hds : (R.all fun i => match ops[i]? with | some o => o.dst == some (D i) && o.guard.isNone | none => false) = true) (hck : chkD md ops l0 R dep = true) (hS : ∀ p w, J p w → S w)
    (step : ∀ i ∈ R, ∀ (p : Nat → Bool) (a : Act) (x : Nat → Value) (w : World) (o : Oper), ops[i]? = some o → p i = false → (∀ t, (∀ j ∈ R, D j ≠ t) → a.eval (.tmp t) = a0.eval (.tmp t)) → (∀ j ∈ dep i, p j = true ∧ a.eval (.tmp (D j)) = x j ∧ G j (x j) w) → J p w → ∀ K : Act → World → Prop, (∀ v w', G i v w' → L w w' → J (upB p i) w' → K (a.put (some (D i)) v) w') → Oper.wp P o a w K Q)
    (h0 : J (fun _ => false) w) (fin : ∀ x w, J (fun i => R.contains i) w → (∀ i ∈ R, G i (x i) w) → wpAnyH P md ops Q S fuel (lstD l0 R (fun _ => true)) (frmD D a0 R (fun _ => true) x) w) :
    wpAnyH P md ops Q S (fuel + R.length) l0 a0 w := by
  refine any_set R D dep (fun p x w => J p w ∧ ∀ i ∈ R, p i = true → G i (x i) w) (fun _ => undef) hn hD hdep (fun i hi => ?_) hck (fun p _ w h => hS p w h.1) ?_ ⟨h0, fun i _ hi => by cases hi⟩ ?_
  · have h := List.all_eq_true.1 hds i hi
    cases ho : ops[i]? with
    | none => rw [ho] at h; simp at h
    | some o =>
      rw [ho] at h
      simp only [Bool.and_eq_true, beq_iff_eq, Option.isNone_iff_eq_none] at h
      exact ⟨o, rfl, h.1, h.2⟩
  · rintro i hi p x w o ho hp hd ⟨hb, hG⟩ K hK
    refine step i hi p (frmD D a0 R p x) x w o ho hp (fun t ht => frmD_other ht) (fun j hj => ⟨hd j hj, ?_, hG j (hdep i hi j hj) (hd j hj)⟩) hb K fun v w' hv hb' hJ => hK v w' ⟨hJ, fun j hj hpj => ?_⟩
    · exact frmD_at hD hn (hdep i hi j hj) (hd j hj) (of_decide_eq_true (List.all_eq_true.1 hsz j (hdep i hi j hj)))
    · unfold upV
      by_cases hji : j = i
      · rw [if_pos hji, hji]; exact hv
      · rw [if_neg hji]
        unfold upB at hpj
        rw [if_neg hji] at hpj
        exact hmono _ _ _ _ (hG j hj hpj) hb'
  · rintro x w ⟨hb, hG⟩
    exact fin x w hb fun i hi => hG i hi (by simp [hi])

theorem evalD {a : Act} {t : Tmp} {v : Value} (h : a.eval (.tmp t) = v) : a.tmps[t]?.getD undef = v := by
  rw [← h]; simp [Act.eval]

theorem oper_val {o : Oper} {a : Act} {w w' : World} {K : Act → World → Prop} {d : Option Tmp} {v : Value} (hd : o.dst = d) (hr : (execOp a.eval o).run P w = .ok (.value v) w') (h : K (a.put d v) w') : Oper.wp P o a w K Q := by
  subst hd
  unfold Oper.wp
  rw [hr]
  exact h

theorem oper_call {o : Oper} {a : Act} {w : World} {K : Act → World → Prop} {d : Option Tmp} (hd : o.dst = d) (f : FuncId) (fn : Func) (xs : Array Operand) (ts : Array TypeId) (hop : o.op = Op.call { callee := Callee.value (Operand.func f), args := xs, argTypes := ts })
    (hfn : P.funcs[f]? = some fn) (hnm : (fn.name == "runtime.NumGoroutine") = false) (hbd : fn.body.isNone = false) (args : Array Value) (hargs : xs.map a.eval = args) (R : Ending → World → Prop) (hc : Calls P f args w R)
    (h : ∀ e w', R e w' → ∃ v, e = .returned v ∧ K (a.put d v) w') : Oper.wp P o a w K Q := by
  subst hd
  unfold Oper.wp
  rw [run_callw f fn xs ts hop hfn hnm hbd, hargs, Oper.upon_enter]
  refine hc.mono fun e w'' hh => ?_
  obtain ⟨v, rfl, hk⟩ := h e w'' hh
  exact hk
end
end Go.Proofs.Ytajcmamapmeglaa


/- grow: a flow's net is grown, whatever the bytes. -/
namespace Go.Proofs.Ytajcmamapmeglaa
open Go.RowKit
set_option maxRecDepth 10000

/-- A list of transitions that is appended: each of its lists made now. -/
theorem news3 {B : Nat} {v : World} {a0 a1 a2 : Option Addr} {n0 n1 n2 c0 c1 c2 : Nat} {x0 x1 x2 : List Int} (h0 : NewL B v a0 n0 c0 x0) (h1 : NewL B v a1 n1 c1 x1) (h2 : NewL B v a2 n2 c2 x2) (m0 : n0 ≤ 20) (m1 : n1 ≤ 20) (m2 : n2 ≤ 20) :
    ∀ j, j < 3 * 1 → ∃ a n c xs, ([.slice a0 n0 c0, .slice a1 n1 c1, .slice a2 n2 c2] : List Value)[j]? = some (.slice a n c) ∧ n ≤ 20 ∧ NewL B v a n c xs := by
  intro j hj
  obtain h | h | h : j = 0 ∨ j = 1 ∨ j = 2 := by omega
  all_goals subst h
  · exact ⟨_, _, _, _, rfl, m0, h0⟩
  · exact ⟨_, _, _, _, rfl, m1, h1⟩
  · exact ⟨_, _, _, _, rfl, m2, h2⟩

theorem news6 {B : Nat} {v : World} {a0 a1 a2 a3 a4 a5 : Option Addr} {n0 n1 n2 n3 n4 n5 c0 c1 c2 c3 c4 c5 : Nat} {x0 x1 x2 x3 x4 x5 : List Int} (h0 : NewL B v a0 n0 c0 x0) (h1 : NewL B v a1 n1 c1 x1) (h2 : NewL B v a2 n2 c2 x2) (h3 : NewL B v a3 n3 c3 x3) (h4 : NewL B v a4 n4 c4 x4) (h5 : NewL B v a5 n5 c5 x5)
    (m0 : n0 ≤ 20) (m1 : n1 ≤ 20) (m2 : n2 ≤ 20) (m3 : n3 ≤ 20) (m4 : n4 ≤ 20) (m5 : n5 ≤ 20) :
    ∀ j, j < 3 * 2 → ∃ a n c xs, ([.slice a0 n0 c0, .slice a1 n1 c1, .slice a2 n2 c2, .slice a3 n3 c3, .slice a4 n4 c4, .slice a5 n5 c5] : List Value)[j]? = some (.slice a n c) ∧ n ≤ 20 ∧ NewL B v a n c xs := by
  intro j hj
  obtain h | h | h | h | h | h : j = 0 ∨ j = 1 ∨ j = 2 ∨ j = 3 ∨ j = 4 ∨ j = 5 := by omega
  all_goals subst h
  · exact ⟨_, _, _, _, rfl, m0, h0⟩
  · exact ⟨_, _, _, _, rfl, m1, h1⟩
  · exact ⟨_, _, _, _, rfl, m2, h2⟩
  · exact ⟨_, _, _, _, rfl, m3, h3⟩
  · exact ⟨_, _, _, _, rfl, m4, h4⟩
  · exact ⟨_, _, _, _, rfl, m5, h5⟩

theorem newNil (B : Nat) (v : World) : NewL B v none 0 0 [] := .inl ⟨rfl, rfl, rfl, rfl⟩

/-- What the operations of a fork's statement yield. -/
def forkG (B : Nat) (u : Value) (x pl : Int) (i : Nat) (v : Value) (w : World) : Prop :=
  match i with
  | 4 => v = u
  | 6 => ∃ a, v = .slice a 1 1 ∧ NewL B w a 1 1 [x]
  | 10 => ∃ a, v = .slice a 2 2 ∧ NewL B w a 2 2 [pl, pl + 1]
  | 16 => ∃ a, v = .slice a 2 2 ∧ NewL B w a 2 2 [pl + 2, pl + 3]
  | 18 => ∃ a n c xs, v = .slice a n c ∧ n ≤ 20 ∧ NewL B w a n c xs
  | 11 => ∃ a b, v = .agg #[.slice a 1 1, .slice b 2 2, .slice none 0 0] ∧ NewL B w a 1 1 [x] ∧ NewL B w b 2 2 [pl, pl + 1]
  | 19 => ∃ a b n c xs, v = .agg #[.slice a 2 2, .slice b n c, .slice none 0 0] ∧ n ≤ 20 ∧ NewL B w a 2 2 [pl + 2, pl + 3] ∧ NewL B w b n c xs
  | 20 => ∃ g a6 a10 a16 a18 n18 c18 xs, v = .slice (some ⟨g, 0, none⟩) 2 2 ∧ w.heap[g]? = some (.cells #[.slice a6 1 1, .slice a10 2 2, .slice none 0 0, .slice a16 2 2, .slice a18 n18 c18, .slice none 0 0] 106 (0, 0)) ∧ n18 ≤ 20 ∧ NewL B w a6 1 1 [x] ∧ NewL B w a10 2 2 [pl, pl + 1] ∧ NewL B w a16 2 2 [pl + 2, pl + 3] ∧ NewL B w a18 n18 c18 xs
  | _ => True

theorem forkG_mono {B : Nat} {u : Value} {x pl : Int} (i : Nat) (v : Value) (w w' : World) (h : forkG B u x pl i v w) (hb : Below w.heap.size w w') : forkG B u x pl i v w' := by
  unfold forkG at *
  split at h
  · exact h
  · obtain ⟨a, e, h1⟩ := h; exact ⟨a, e, h1.grown hb⟩
  · obtain ⟨a, e, h1⟩ := h; exact ⟨a, e, h1.grown hb⟩
  · obtain ⟨a, e, h1⟩ := h; exact ⟨a, e, h1.grown hb⟩
  · obtain ⟨a, n, c, xs, e, hn, h1⟩ := h; exact ⟨a, n, c, xs, e, hn, h1.grown hb⟩
  · obtain ⟨a, b, e, h1, h2⟩ := h; exact ⟨a, b, e, h1.grown hb, h2.grown hb⟩
  · obtain ⟨a, b, n, c, xs, e, hn, h1, h2⟩ := h; exact ⟨a, b, n, c, xs, e, hn, h1.grown hb, h2.grown hb⟩
  · obtain ⟨g, a6, a10, a16, a18, n18, c18, xs, e, hh, hn, h1, h2, h3, h4⟩ := h; exact ⟨g, a6, a10, a16, a18, n18, c18, xs, e, keep hh hb, hn, h1.grown hb, h2.grown hb, h3.grown hb, h4.grown hb⟩
  · trivial

section
variable {W v : World} {bc : Nat} {ca : Option Addr} {cn cc p : Nat} {bs : List Int} {V : Nat} {pl : Int} {u : Value} {k : Nat} {cells : List Value}

set_option maxHeartbeats 2000000 in
theorem grow_early (d : Nat) (x y : Int) (h : GrSt W v bc ca cn cc p bs V pl u k cells) (hk : k ≤ 60) (hd : d = 0 ∨ 9 < pl ∨ 12 < k) :
    Calls Try.prog 145 #[.pointer (some ⟨bc, 0, none⟩), .pointer (some ⟨V, 0, none⟩), .int .i64 x, .int .i64 y, .int .i64 (d : Int)] v fun e v' => GrEnd W bc ca cn cc p bs V pl k d 1 e v' := by
  obtain ⟨ua, uc, rfl⟩ := h.form
  have y1 : (v.alloc (.cells #[.int .i64 x] 3)).heap.size = v.heap.size + 1 := by simp
  have y2 : ((v.alloc (.cells #[.int .i64 x] 3)).alloc (.cells #[.int .i64 y] 3)).heap.size = v.heap.size + 1 + 1 := by simp
  have HA2 := hide (below_two v (.cells #[.int .i64 x] 3) (.cells #[.int .i64 y] 3))
  have hA3 := below_al ((v.alloc (.cells #[.int .i64 x] 3)).alloc (.cells #[.int .i64 y] 3)) (.cells #[.slice (some ⟨v.heap.size, 0, none⟩) 1 1, .slice (some ⟨v.heap.size + 1, 0, none⟩) 1 1, .slice none 0 0] 106)
  have HA := hide (HA2.out.trans (hA3.mono HA2.out.size))
  have L0 := ((newL1 v x).grown (below_al _ (.cells #[.int .i64 y] 3))).grown hA3
  have L1 := (newL1 (v.alloc (.cells #[.int .i64 x] 3)) y).grown hA3
  rw [y1] at L1
  have HNL := hide (news3 L0 (L1.mono (Nat.le_succ _)) (newNil v.heap.size _) (by decide) (by decide) (by decide))
  have HNW := hide (news3d ((v.alloc (.cells #[.int .i64 x] 3)).alloc (.cells #[.int .i64 y] 3)) (.slice (some ⟨v.heap.size, 0, none⟩) 1 1) (.slice (some ⟨v.heap.size + 1, 0, none⟩) 1 1) (.slice none 0 0))
  rw [y2] at HNW
  have HOWN := hide (h.net.grow HA.out).own
  have HV3 := hide ((HA.out.block V h.lt).trans h.var)
  have HVL := hide (row_lt HV3.out)
  have HG := hide h
  have hc0 := h.c0
  have hc1 := h.c1
  have hVl := h.lt
  obtain ⟨i1, hi1, hz0, hz1, hz2⟩ := info_split Try.info106
  have hgt : 1 ≤ grT d := by cases d <;> simp [grT] <;> omega
  clear h L0 L1 hA3 HA2 y1 y2
  have hcase : ((d : Int) = 0) ∨ (¬ (d : Int) = 0 ∧ 9 < pl) ∨ (¬ (d : Int) = 0 ∧ ¬ 9 < pl ∧ (12 : Int) < (k : Int)) := by omega
  go_enter Try.func145, Try.ntmps145
  rcases hcase with hq | ⟨hq, hq2⟩ | ⟨hq, hq2, hq3⟩
  all_goals
    go_wp2_with (at_builtin; refine wpList_append_lies _ rfl (.tmp 32) (.tmp 38) 24 rfl (V + 1) 106 i1 _ 3 72 Try.underlying24 hi1 hz0 hz1 hz2 rfl (by decide) (.slice ua k uc) k cells rfl HOWN.out ⟨v.heap.size + 1 + 1, 0, none⟩ 1 1 [.slice (some ⟨v.heap.size, 0, none⟩) 1 1, .slice (some ⟨v.heap.size + 1, 0, none⟩) 1 1, .slice none 0 0] rfl rfl HNW.out (by simp [Value.oneCell']) (by decide) (by unfold maxLen; omega) (by omega) (by have := HVL.out; omega) (v.heap.size + 1 + 1 + 1) (by simp) ?_; intro g cp W' hown hgr hlies hglt; have hV' := (hgr.block V HVL.out (fun e => by have := HOWN.out.lt V e.symm; omega)).trans HV3.out; have hz3 : W'.cell? ⟨V, 1, none⟩ = some (.slice ua k uc) := cell_of_row W' V 1 _ _ _ hV'; have hz4 : W'.frozen? ⟨V, 1, none⟩ = false := frozen_of_row W' V 1 _ _ hV')
    have S3 := hide (HG.out.append (m := 1) HA.out HNL.out hown hgr (by simpa using hlies))
    refine bodyPost_ret (results_none rfl _ _ _) rfl ?_
    exact ⟨p, pl, _, k + 1, _, rfl, S3, Nat.le_refl _, by omega, Int.le_refl _, by omega, Nat.le_refl _, by omega⟩

set_option maxHeartbeats 4000000 in
theorem grow_step (d : Nat) (x y : Int) (ih : ∀ (x y : Int) (v : World) (p : Nat) (pl : Int) (u : Value) (k : Nat) (cells : List Value), GrSt W v bc ca cn cc p bs V pl u k cells → p + grC d ≤ 900000 → 0 ≤ pl → pl + grP d ≤ 60 → k + grT d ≤ 60 →
      Calls Try.prog 145 #[.pointer (some ⟨bc, 0, none⟩), .pointer (some ⟨V, 0, none⟩), .int .i64 x, .int .i64 y, .int .i64 (d : Int)] v fun e v' => GrEnd W bc ca cn cc p bs V pl k d 1 e v')
    (h : GrSt W v bc ca cn cc p bs V pl u k cells) (hcn : cn ≤ 1048576) (hp : p + grC (d + 1) ≤ 900000) (hpl : 0 ≤ pl) (hpl2 : pl + grP (d + 1) ≤ 60) (hk : k + grT (d + 1) ≤ 60) (hd : d ≤ 100) (hd1 : ¬ 9 < pl) (hd2 : ¬ 12 < k) :
    Calls Try.prog 145 #[.pointer (some ⟨bc, 0, none⟩), .pointer (some ⟨V, 0, none⟩), .int .i64 x, .int .i64 y, .int .i64 ((d + 1 : Nat) : Int)] v fun e v' => GrEnd W bc ca cn cc p bs V pl k (d + 1) 2 e v' := by
  obtain ⟨ua, uc, rfl⟩ := h.form
  have IH := hide ih
  have HG := hide h
  have hc0 := h.c0
  have hc1 := h.c1
  have hVl := h.lt
  have hq : ¬ ((d + 1 : Nat) : Int) = 0 := by omega
  have hq2 : ¬ (12 : Int) < (k : Int) := by omega
  have hds : ((d + 1 : Nat) : Int) - 1 = (d : Int) := by omega
  have eT : grT (d + 1) = 2 + 2 * grT d := rfl
  have eP : grP (d + 1) = 4 + 2 * grP d := rfl
  have eC : grC (d + 1) = 1 + 2 * grC d := rfl
  obtain ⟨i1, hi1, hz0, hz1, hz2⟩ := info_split Try.info106
  clear h ih
  go_enter Try.func145, Try.ntmps145
  go_wp2_with fail
  refine (pick_any 5 bc ca cn cc p bs _ HG.out.cur HG.out.bytes (by omega) hcn (by omega) (by omega)).mono ?_
  rintro e v1 ⟨r, rfl, hr, hcur, ho⟩
  have H1 := hide (HG.out.go (Kept.of_only ho) hcur)
  clear HG hcur ho hc0 hc1 hVl
  have hc0 := H1.out.c0
  have hc1 := H1.out.c1
  have hf0 := H1.out.f0
  have hVl := H1.out.lt
  obtain hr0 | hr0 | hr0 | hr0 | hr0 : r = 0 ∨ r = 1 ∨ r = 2 ∨ r = 3 ∨ r = 4 := by omega
  all_goals subst hr0
  · have H2 := hide (H1.out.places (pl + 1))
    go_wp2_with fail
    refine (IH.out x pl _ (p + 1) (pl + 1) _ k cells H2.out (by omega) (by omega) (by omega) (by omega)).mono ?_
    rintro e v3 ⟨p3, pl3, u3, k3, cells3, rfl, H3, b1, b2, b3, b4, b5, b6⟩
    go_wp2_with fail
    refine (IH.out pl y _ p3 pl3 u3 k3 cells3 H3.out (by omega) (by omega) (by omega) (by omega)).mono ?_
    rintro e v4 ⟨p4, pl4, u4, k4, cells4, rfl, H4, d1, d2, d3, d4, d5, d6⟩
    go_wp2_with fail
    refine bodyPost_end (results_none rfl _ _ _) rfl ?_
    exact ⟨p4, pl4, u4, k4, cells4, rfl, H4, by omega, by omega, by omega, by omega, by omega, by omega⟩
  · have H2 := hide (H1.out.places (pl + 1))
    go_wp2_with fail
    refine (IH.out x pl _ (p + 1) (pl + 1) _ k cells H2.out (by omega) (by omega) (by omega) (by omega)).mono ?_
    rintro e v3 ⟨p3, pl3, u3, k3, cells3, rfl, H3, b1, b2, b3, b4, b5, b6⟩
    go_wp2_with fail
    refine (IH.out pl y _ p3 pl3 u3 k3 cells3 H3.out (by omega) (by omega) (by omega) (by omega)).mono ?_
    rintro e v4 ⟨p4, pl4, u4, k4, cells4, rfl, H4, d1, d2, d3, d4, d5, d6⟩
    go_wp2_with fail
    refine bodyPost_end (results_none rfl _ _ _) rfl ?_
    exact ⟨p4, pl4, u4, k4, cells4, rfl, H4, by omega, by omega, by omega, by omega, by omega, by omega⟩
  · go_wp2_with fail
    refine (IH.out x y _ (p + 1) pl _ k cells H1.out (by omega) (by omega) (by omega) (by omega)).mono ?_
    rintro e v3 ⟨p3, pl3, u3, k3, cells3, rfl, H3, b1, b2, b3, b4, b5, b6⟩
    go_wp2_with fail
    refine (IH.out x y _ p3 pl3 u3 k3 cells3 H3.out (by omega) (by omega) (by omega) (by omega)).mono ?_
    rintro e v4 ⟨p4, pl4, u4, k4, cells4, rfl, H4, d1, d2, d3, d4, d5, d6⟩
    go_wp2_with fail
    refine bodyPost_end (results_none rfl _ _ _) rfl ?_
    exact ⟨p4, pl4, u4, k4, cells4, rfl, H4, by omega, by omega, by omega, by omega, by omega, by omega⟩
  · go_upto_region 18 with fail
    have H2 := hide (H1.out.places (pl + 4))
    generalize v1.setCell ⟨V, 0, none⟩ (.int .i64 (pl + 4)) = v2 at *
    clear H1 hc0 hc1 hf0 hVl
    have hc1 := H2.out.c1
    have hVl := H2.out.lt
    refine wp_region_held_drew (S := fun _ => True) (by kernel_rfl) trivial (fun hHeld => ?_)
    refine take_yes (i := 0) (some 140) (.pointer (some ⟨V, 0, none⟩)) rfl rfl (by kernel_rfl) (by kernel_rfl) (by kernel_rfl) (fun _ _ _ h => h) (by rfl) (fun W' _ => by go_simp) trivial ?_
    simp only [Act.put, List.setIfInBounds_toArray, List.set_cons_zero, List.set_cons_succ]
    refine take_yes (i := 1) (some 141) (.pointer (some ⟨V, 0, none⟩)) rfl rfl (by kernel_rfl) (by kernel_rfl) (by kernel_rfl) (fun _ _ _ h => h) (by rfl) (fun W' _ => by go_simp) trivial ?_
    simp only [Act.put, List.setIfInBounds_toArray, List.set_cons_zero, List.set_cons_succ]
    refine take_yes (i := 2) (some 142) (.pointer (some ⟨V, 0, none⟩)) rfl rfl (by kernel_rfl) (by kernel_rfl) (by kernel_rfl) (fun _ _ _ h => h) (by rfl) (fun W' _ => by go_simp) trivial ?_
    simp only [Act.put, List.setIfInBounds_toArray, List.set_cons_zero, List.set_cons_succ]
    refine take_yes (i := 3) (some 143) (.pointer (some ⟨V, 1, none⟩)) rfl rfl (by kernel_rfl) (by kernel_rfl) (by kernel_rfl) (fun _ _ _ h => h) (by rfl) (fun W' _ => by go_simp) trivial ?_
    simp only [Act.put, List.setIfInBounds_toArray, List.set_cons_zero, List.set_cons_succ]
    refine take_yes (i := 5) (some 145) (.int .i64 x) rfl rfl (by kernel_rfl) (by kernel_rfl) (by kernel_rfl) (fun _ _ _ h => h) (by rfl) (fun W' _ => by go_simp) trivial ?_
    simp only [Act.put, List.setIfInBounds_toArray, List.set_cons_zero, List.set_cons_succ]
    refine take_yes (i := 7) (some 147) (.int .i64 pl) rfl rfl (by kernel_rfl) (by kernel_rfl) (by kernel_rfl) (fun _ _ _ h => h) (by rfl) (fun W' _ => by go_simp) trivial ?_
    simp only [Act.put, List.setIfInBounds_toArray, List.set_cons_zero, List.set_cons_succ]
    refine take_yes (i := 8) (some 148) (.int .i64 pl) rfl rfl (by kernel_rfl) (by kernel_rfl) (by kernel_rfl) (fun _ _ _ h => h) (by rfl) (fun W' _ => by go_simp) trivial ?_
    simp only [Act.put, List.setIfInBounds_toArray, List.set_cons_zero, List.set_cons_succ]
    refine take_yes (i := 9) (some 149) (.int .i64 (pl + 1)) rfl rfl (by kernel_rfl) (by kernel_rfl) (by kernel_rfl) (fun _ _ _ h => h) (by rfl) (fun W' _ => by go_simp; exact IntWalk.i64_in _ (by omega)) trivial ?_
    simp only [Act.put, List.setIfInBounds_toArray, List.set_cons_zero, List.set_cons_succ]
    refine take_yes (i := 12) (some 152) (.int .i64 pl) rfl rfl (by kernel_rfl) (by kernel_rfl) (by kernel_rfl) (fun _ _ _ h => h) (by rfl) (fun W' _ => by go_simp) trivial ?_
    simp only [Act.put, List.setIfInBounds_toArray, List.set_cons_zero, List.set_cons_succ]
    refine take_yes (i := 13) (some 153) (.int .i64 (pl + 2)) rfl rfl (by kernel_rfl) (by kernel_rfl) (by kernel_rfl) (fun _ _ _ h => h) (by rfl) (fun W' _ => by go_simp; exact IntWalk.i64_in _ (by omega)) trivial ?_
    simp only [Act.put, List.setIfInBounds_toArray, List.set_cons_zero, List.set_cons_succ]
    refine take_yes (i := 14) (some 154) (.int .i64 pl) rfl rfl (by kernel_rfl) (by kernel_rfl) (by kernel_rfl) (fun _ _ _ h => h) (by rfl) (fun W' _ => by go_simp) trivial ?_
    simp only [Act.put, List.setIfInBounds_toArray, List.set_cons_zero, List.set_cons_succ]
    refine take_yes (i := 15) (some 155) (.int .i64 (pl + 3)) rfl rfl (by kernel_rfl) (by kernel_rfl) (by kernel_rfl) (fun _ _ _ h => h) (by rfl) (fun W' _ => by go_simp; exact IntWalk.i64_in _ (by omega)) trivial ?_
    simp only [Act.put, List.setIfInBounds_toArray, List.set_cons_zero, List.set_cons_succ]
    refine take_yes (i := 17) (some 157) (.int .i64 y) rfl rfl (by kernel_rfl) (by kernel_rfl) (by kernel_rfl) (fun _ _ _ h => h) (by rfl) (fun W' _ => by go_simp) trivial ?_
    simp only [Act.put, List.setIfInBounds_toArray, List.set_cons_zero, List.set_cons_succ]
    have HV2 := hide H2.out.var
    refine any_make [4, 6, 10, 11, 16, 18, 19, 20] (fun i => i + 140) (fun i => if i = 11 then [6, 10] else if i = 19 then [16, 18] else if i = 20 then [11, 19] else []) v2 (forkG v2.heap.size (.slice ua k uc) x pl) (fuel := 4) forkG_mono (by decide) (fun i _ j _ h => by simpa using h) (by kernel_rfl) (by decide) (by kernel_rfl) (by kernel_rfl) (fun _ => trivial) ?_ (Below.refl _ v2).drew ?_
    · intro i hi a z w o ho hoth hdeps hb K hK
      simp only [List.mem_cons, List.not_mem_nil, or_false] at hi
      rcases hi with rfl | rfl | rfl | rfl | rfl | rfl | rfl | rfl
      all_goals obtain rfl := Option.some.inj ho
      · have e1 := evalD (v := .pointer (some ⟨V, 1, none⟩)) ((hoth 143 (by decide)).trans rfl)
        have hcw : w.cell? ⟨V, 1, none⟩ = some (.slice ua k uc) := cell_of_row w V 1 _ _ _ ((hb.block V hVl).trans HV2.out)
        exact oper_val rfl (v := .slice ua k uc) (w' := w) (by go_simp) (hK _ _ rfl (Below.refl _ _))
      · have e1 := evalD (v := .int .i64 x) ((hoth 145 (by decide)).trans rfl)
        exact oper_val rfl (v := .slice (some ⟨w.heap.size, 0, none⟩) 1 1) (w' := w.alloc (.cells #[.int .i64 x] 3)) (by go_simp) (hK _ _ ⟨_, rfl, (newL1 w x).mono hb.size⟩ (below_al w _))
      · have e1 := evalD (v := .int .i64 pl) ((hoth 147 (by decide)).trans rfl)
        have e2 := evalD (v := .int .i64 (pl + 1)) ((hoth 149 (by decide)).trans rfl)
        exact oper_val rfl (v := .slice (some ⟨w.heap.size, 0, none⟩) 2 2) (w' := w.alloc (.cells #[.int .i64 pl, .int .i64 (pl + 1)] 3)) (by go_simp) (hK _ _ ⟨_, rfl, (newL2 w pl (pl + 1)).mono hb.size⟩ (below_al w _))
      · obtain ⟨e1, a6, ez1, l1⟩ := hdeps 6 (by decide)
        obtain ⟨e2, a10, ez2, l2⟩ := hdeps 10 (by decide)
        have e1' : a.tmps[146]?.getD undef = .slice a6 1 1 := evalD (e1.trans ez1)
        have e2' : a.tmps[150]?.getD undef = .slice a10 2 2 := evalD (e2.trans ez2)
        exact oper_val rfl (v := .agg #[.slice a6 1 1, .slice a10 2 2, .slice none 0 0]) (w' := w) (by go_simp) (hK _ _ ⟨_, _, rfl, l1, l2⟩ (Below.refl _ _))
      · have e1 := evalD (v := .int .i64 (pl + 2)) ((hoth 153 (by decide)).trans rfl)
        have e2 := evalD (v := .int .i64 (pl + 3)) ((hoth 155 (by decide)).trans rfl)
        exact oper_val rfl (v := .slice (some ⟨w.heap.size, 0, none⟩) 2 2) (w' := w.alloc (.cells #[.int .i64 (pl + 2), .int .i64 (pl + 3)] 3)) (by go_simp) (hK _ _ ⟨_, rfl, (newL2 w (pl + 2) (pl + 3)).mono hb.size⟩ (below_al w _))
      · have e1 : a.eval (.tmp 157) = .int .i64 y := (hoth 157 (by decide)).trans rfl
        refine oper_call rfl 144 _ _ _ rfl Try.func144 (by decide) rfl #[.slice none 0 0, .int .i64 y] (mapw2 _ _ _ _ _ rfl e1) _ (put_nil y w) ?_
        rintro e w' ⟨g, m', c', ys, rfl, h1, h2, h3, h4, h5, h6, h7⟩
        exact ⟨_, rfl, hK _ _ ⟨_, m', c', ys, rfl, by omega, .inr ⟨g, rfl, by have := hb.size; omega, h1, h3, h4, h5⟩⟩ h7⟩
      · obtain ⟨e1, a16, ez1, l1⟩ := hdeps 16 (by decide)
        obtain ⟨e2, a18, n18, c18, xs18, ez2, hn18, l2⟩ := hdeps 18 (by decide)
        have e1' : a.tmps[156]?.getD undef = .slice a16 2 2 := evalD (e1.trans ez1)
        have e2' : a.tmps[158]?.getD undef = .slice a18 n18 c18 := evalD (e2.trans ez2)
        exact oper_val rfl (v := .agg #[.slice a16 2 2, .slice a18 n18 c18, .slice none 0 0]) (w' := w) (by go_simp) (hK _ _ ⟨_, _, _, _, _, rfl, hn18, l1, l2⟩ (Below.refl _ _))
      · obtain ⟨e1, a6, a10, ez1, l6, l10⟩ := hdeps 11 (by decide)
        obtain ⟨e2, a16, a18, n18, c18, xs18, ez2, hn18, l16, l18⟩ := hdeps 19 (by decide)
        have e1' : a.tmps[151]?.getD undef = .agg #[.slice a6 1 1, .slice a10 2 2, .slice none 0 0] := evalD (e1.trans ez1)
        have e2' : a.tmps[159]?.getD undef = .agg #[.slice a16 2 2, .slice a18 n18 c18, .slice none 0 0] := evalD (e2.trans ez2)
        have hA := below_al w (.cells #[.slice a6 1 1, .slice a10 2 2, .slice none 0 0, .slice a16 2 2, .slice a18 n18 c18, .slice none 0 0] 106)
        exact oper_val rfl (v := .slice (some ⟨w.heap.size, 0, none⟩) 2 2) (w' := w.alloc (.cells #[.slice a6 1 1, .slice a10 2 2, .slice none 0 0, .slice a16 2 2, .slice a18 n18 c18, .slice none 0 0] 106)) (by go_simp) (hK _ _ ⟨_, a6, a10, a16, a18, n18, c18, xs18, rfl, heap_alloc_new _ _, hn18, l6.grown hA, l10.grown hA, l16.grown hA, l18.grown hA⟩ hA)
    · intro z w3 hb3 hG
      have e4 : z 4 = .slice ua k uc := hG 4 (by decide)
      obtain ⟨b0, a6, a10, a16, a18, n18, c18, xs18, e20, hb0, hn18, l6, l10, l16, l18⟩ := hG 20 (by decide)
      clear hG
      simp only [frmD, lstD, if_true, Act.put, List.setIfInBounds_toArray, List.set_cons_zero, List.set_cons_succ, e4, e20]
      have HA := hide hb3
      have HNL := hide (news6 l6 l10 (newNil v2.heap.size _) l16 l18 (newNil v2.heap.size _) (by decide) (by decide) (by decide) (by decide) hn18 (by decide))
      have HNW := hide (World.news_of_block hb0)
      have HOWN := hide (H2.out.net.grow HA.out).own
      have HV3 := hide ((HA.out.block V hVl).trans H2.out.var)
      have HVL := hide (row_lt HV3.out)
      refine wpAnyH_ready (rs := [21]) (by kernel_rfl) (by simp) (AllReadyH.cons rfl (fun K hK => ?_) AllReadyH.nil)
      refine step_appWd (some 161) rfl (by rfl) (.tmp 144) (.tmp 160) 24 (by rfl) (V + 1) 106 i1 _ 3 72 Try.underlying24 hi1 hz0 hz1 hz2 (by rfl) (by decide) (.slice ua k uc) k cells (by rfl) HOWN.out ⟨b0, 0, none⟩ 2 2 [.slice a6 1 1, .slice a10 2 2, .slice none 0 0, .slice a16 2 2, .slice a18 n18 c18, .slice none 0 0] (by rfl) (by rfl) HNW.out (by simp [Value.oneCell']) (by decide) (by unfold maxLen; omega) (by omega) (by have := HVL.out; omega) w3.heap.size rfl ?_
      intro g cp W' hown hgr hlies hglt
      have hV' := (hgr.block V HVL.out (fun e => by have := HOWN.out.lt V e.symm; omega)).trans HV3.out
      refine hK.out _ _ trivial (fun _ => ?_)
      clear hK K
      simp only [Act.put, List.setIfInBounds_toArray, List.set_cons_zero, List.set_cons_succ]
      refine take_yes (i := 22) (some 162) (.pointer (some ⟨V, 0, none⟩)) rfl rfl (by kernel_rfl) (by kernel_rfl) (by kernel_rfl) (fun _ _ _ h => h) (by rfl) (fun W' _ => by go_simp) trivial ?_
      simp only [Act.put, List.setIfInBounds_toArray, List.set_cons_zero, List.set_cons_succ]
      refine take_yes (i := 23) (some 163) (.pointer (some ⟨V, 1, none⟩)) rfl rfl (by kernel_rfl) (by kernel_rfl) (by kernel_rfl) (fun _ _ _ h => h) (by rfl) (fun W' _ => by go_simp) trivial ?_
      simp only [Act.put, List.setIfInBounds_toArray, List.set_cons_zero, List.set_cons_succ]
      refine store_one_next (i := 24) rfl rfl (by kernel_rfl) (by rfl) 24 _ _ rfl V 1 (some ⟨g, 0, none⟩) (k + 2) cp rfl rfl _ 26 hV' (by simp) (by kernel_rfl) trivial (fun _ => ?_)
      refine wpAnyH_done (by kernel_rfl) ?_ _
      have S3 := hide (H2.out.append (m := 2) HA.out HNL.out hown hgr hlies)
      clear hown hgr hlies hglt hV' HNW HOWN HA HNL H2 HV2 HV3 HVL hb3 l6 l10 l16 l18 e4 e20 hc1 hVl
      go_wp2_with fail
      refine (IH.out pl (pl + 2) _ (p + 1) (pl + 4) _ (k + 2) _ S3.out (by omega) (by omega) (by omega) (by omega)).mono ?_
      rintro e v3 ⟨p3, pl3, u3, k3, cells3, rfl, H3, b1, b2, b3, b4, b5, b6⟩
      go_wp2_with fail
      refine (IH.out (pl + 1) (pl + 3) _ p3 pl3 u3 k3 cells3 H3.out (by omega) (by omega) (by omega) (by omega)).mono ?_
      rintro e v4 ⟨p4, pl4, u4, k4, cells4, rfl, H4, d1, d2, d3, d4, d5, d6⟩
      go_wp2_with fail
      refine bodyPost_end (results_none rfl _ _ _) rfl ?_
      exact ⟨p4, pl4, u4, k4, cells4, rfl, H4, by omega, by omega, by omega, by omega, by omega, by omega⟩
  · go_upto_region 5 with fail
    have H2 := hide (H1.out.places (pl + 2))
    generalize v1.setCell ⟨V, 0, none⟩ (.int .i64 (pl + 2)) = v2 at *
    clear H1 hc0 hc1 hf0 hVl
    have hc1 := H2.out.c1
    have hVl := H2.out.lt
    have y1 : (v2.alloc (.cells #[.int .i64 x] 3)).heap.size = v2.heap.size + 1 := by simp
    have y2 : ((v2.alloc (.cells #[.int .i64 x] 3)).alloc (.cells #[.int .i64 pl] 3)).heap.size = v2.heap.size + 1 + 1 := by simp
    have y3 : (((v2.alloc (.cells #[.int .i64 x] 3)).alloc (.cells #[.int .i64 pl] 3)).alloc (.cells #[.int .i64 (pl + 1)] 3)).heap.size = v2.heap.size + 1 + 1 + 1 := by simp
    have y4 : ((((v2.alloc (.cells #[.int .i64 x] 3)).alloc (.cells #[.int .i64 pl] 3)).alloc (.cells #[.int .i64 (pl + 1)] 3)).alloc (.cells #[.int .i64 y] 3)).heap.size = v2.heap.size + 1 + 1 + 1 + 1 := by simp
    have hA1 := below_al v2 (.cells #[.int .i64 x] 3)
    have hA2 := below_al (v2.alloc (.cells #[.int .i64 x] 3)) (.cells #[.int .i64 pl] 3)
    have hA3 := below_al ((v2.alloc (.cells #[.int .i64 x] 3)).alloc (.cells #[.int .i64 pl] 3)) (.cells #[.int .i64 (pl + 1)] 3)
    have hA4 := below_al (((v2.alloc (.cells #[.int .i64 x] 3)).alloc (.cells #[.int .i64 pl] 3)).alloc (.cells #[.int .i64 (pl + 1)] 3)) (.cells #[.int .i64 y] 3)
    have hA5 := below_al ((((v2.alloc (.cells #[.int .i64 x] 3)).alloc (.cells #[.int .i64 pl] 3)).alloc (.cells #[.int .i64 (pl + 1)] 3)).alloc (.cells #[.int .i64 y] 3)) (.cells #[.slice (some ⟨v2.heap.size, 0, none⟩) 1 1, .slice (some ⟨v2.heap.size + 1, 0, none⟩) 1 1, .slice none 0 0, .slice (some ⟨v2.heap.size + 1 + 1, 0, none⟩) 1 1, .slice (some ⟨v2.heap.size + 1 + 1 + 1, 0, none⟩) 1 1, .slice none 0 0] 106)
    have HA := hide (hA1.trans ((hA2.trans ((hA3.trans ((hA4.trans (hA5.mono hA4.size)).mono hA3.size)).mono hA2.size)).mono hA1.size))
    have L0 := ((((newL1 v2 x).grown hA2).grown hA3).grown hA4).grown hA5
    have L1 := (((newL1 (v2.alloc (.cells #[.int .i64 x] 3)) pl).grown hA3).grown hA4).grown hA5
    have L2 := ((newL1 ((v2.alloc (.cells #[.int .i64 x] 3)).alloc (.cells #[.int .i64 pl] 3)) (pl + 1)).grown hA4).grown hA5
    have L3 := (newL1 (((v2.alloc (.cells #[.int .i64 x] 3)).alloc (.cells #[.int .i64 pl] 3)).alloc (.cells #[.int .i64 (pl + 1)] 3)) y).grown hA5
    rw [y1] at L1
    rw [y2] at L2
    rw [y3] at L3
    have HNL := hide (news6 L0 (L1.mono (by omega)) (newNil v2.heap.size _) (L2.mono (by omega)) (L3.mono (by omega)) (newNil v2.heap.size _) (by decide) (by decide) (by decide) (by decide) (by decide) (by decide))
    have HNW := hide (World.news_of_block (heap_alloc_new ((((v2.alloc (.cells #[.int .i64 x] 3)).alloc (.cells #[.int .i64 pl] 3)).alloc (.cells #[.int .i64 (pl + 1)] 3)).alloc (.cells #[.int .i64 y] 3)) (.cells #[.slice (some ⟨v2.heap.size, 0, none⟩) 1 1, .slice (some ⟨v2.heap.size + 1, 0, none⟩) 1 1, .slice none 0 0, .slice (some ⟨v2.heap.size + 1 + 1, 0, none⟩) 1 1, .slice (some ⟨v2.heap.size + 1 + 1 + 1, 0, none⟩) 1 1, .slice none 0 0] 106)))
    rw [y4] at HNW
    have HOWN := hide (H2.out.net.grow HA.out).own
    have HV3 := hide ((HA.out.block V hVl).trans H2.out.var)
    have HVL := hide (row_lt HV3.out)
    clear y1 y2 y3 y4 hA1 hA2 hA3 hA4 hA5 L0 L1 L2 L3
    go_wp2_with (at_builtin; refine wpList_append_lies _ rfl (.tmp 59) (.tmp 71) 24 rfl (V + 1) 106 i1 _ 3 72 Try.underlying24 hi1 hz0 hz1 hz2 rfl (by decide) (.slice ua k uc) k cells rfl HOWN.out ⟨v2.heap.size + 1 + 1 + 1 + 1, 0, none⟩ 2 2 [.slice (some ⟨v2.heap.size, 0, none⟩) 1 1, .slice (some ⟨v2.heap.size + 1, 0, none⟩) 1 1, .slice none 0 0, .slice (some ⟨v2.heap.size + 1 + 1, 0, none⟩) 1 1, .slice (some ⟨v2.heap.size + 1 + 1 + 1, 0, none⟩) 1 1, .slice none 0 0] rfl rfl HNW.out (by simp [Value.oneCell']) (by decide) (by unfold maxLen; omega) (by omega) (by have := HVL.out; omega) (v2.heap.size + 1 + 1 + 1 + 1 + 1) (by simp) ?_; intro g cp W' hown hgr hlies hglt; have hV' := (hgr.block V HVL.out (fun e => by have := HOWN.out.lt V e.symm; omega)).trans HV3.out; have hz3 : W'.cell? ⟨V, 1, none⟩ = some (.slice ua k uc) := cell_of_row W' V 1 _ _ _ hV'; have hz4 : W'.frozen? ⟨V, 1, none⟩ = false := frozen_of_row W' V 1 _ _ hV')
    have S3 := hide (H2.out.append (m := 2) HA.out HNL.out hown hgr (by simpa using hlies))
    clear hown hgr hlies hglt hV' hz3 hz4 HNW HOWN HA HNL H2
    refine (IH.out pl (pl + 1) _ (p + 1) (pl + 2) _ (k + 2) _ S3.out (by omega) (by omega) (by omega) (by omega)).mono ?_
    rintro e v3 ⟨p3, pl3, u3, k3, cells3, rfl, H3, b1, b2, b3, b4, b5, b6⟩
    go_wp2_with fail
    refine (IH.out (pl + 1) pl _ p3 pl3 u3 k3 cells3 H3.out (by omega) (by omega) (by omega) (by omega)).mono ?_
    rintro e v4 ⟨p4, pl4, u4, k4, cells4, rfl, H4, d1, d2, d3, d4, d5, d6⟩
    go_wp2_with fail
    refine bodyPost_end (results_none rfl _ _ _) rfl ?_
    exact ⟨p4, pl4, u4, k4, cells4, rfl, H4, by omega, by omega, by omega, by omega, by omega, by omega⟩

theorem GrEnd.less {d m m' : Nat} {e : Ending} {v' : World} (h : GrEnd W bc ca cn cc p bs V pl k d m e v') (hm : m' ≤ m) : GrEnd W bc ca cn cc p bs V pl k d m' e v' := by
  obtain ⟨p', pl', u', k', cells', e1, h1, h2, h3, h4, h5, h6, h7⟩ := h
  exact ⟨p', pl', u', k', cells', e1, h1, h2, h3, h4, h5, by omega, h7⟩

theorem grow_draw (hcn : cn ≤ 1048576) (d : Nat) (hd : d ≤ 100) : ∀ (x y : Int) (v : World) (p : Nat) (pl : Int) (u : Value) (k : Nat) (cells : List Value), GrSt W v bc ca cn cc p bs V pl u k cells → p + grC d ≤ 900000 → 0 ≤ pl → pl + grP d ≤ 60 → k + grT d ≤ 60 →
    Calls Try.prog 145 #[.pointer (some ⟨bc, 0, none⟩), .pointer (some ⟨V, 0, none⟩), .int .i64 x, .int .i64 y, .int .i64 (d : Int)] v fun e v' => GrEnd W bc ca cn cc p bs V pl k d (if d = 0 ∨ 9 < pl ∨ 12 < k then 1 else 2) e v' := by
  induction d with
  | zero =>
    intro x y v p pl u k cells h hp h0 h1 hk
    rw [if_pos (.inl rfl)]
    exact grow_early 0 x y h (by omega) (.inl rfl)
  | succ d ih =>
    intro x y v p pl u k cells h hp h0 h1 hk
    by_cases he : 9 < pl ∨ 12 < k
    · rw [if_pos (.inr he)]
      exact grow_early (d + 1) x y h (by omega) (.inr he)
    · rw [if_neg (by omega)]
      refine grow_step d x y (fun x y v p pl u k cells h a1 a2 a3 a4 => (ih (by omega) x y v p pl u k cells h a1 a2 a3 a4).mono fun e v' hh => hh.less (by split <;> omega)) h hcn hp h0 h1 hk (by omega) (fun h => he (.inl h)) (fun h => he (.inr h))
end
end Go.Proofs.Ytajcmamapmeglaa
