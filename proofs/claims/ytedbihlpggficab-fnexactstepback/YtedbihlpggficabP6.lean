/- Contracts that the proof stands on, one behind the other. -/
import Derived.Test.YtedbihlpggficabP5
/- A region that draws its order, some of whose operations make memory: all orders at once, by what holds of those that are done. -/
namespace Go.Proofs.Ytedbihlpggficab
open Go.RowKit
set_option maxRecDepth 10000

/-- Those of R for which p holds are done. -/
def lstD (l0 : Array Bool) : List Nat → (Nat → Bool) → Array Bool
  | [], _ => l0
  | i :: R, p => if p i then (lstD l0 R p).setIfInBounds i true else lstD l0 R p

/-- The frame in which those of R for which p holds have yielded x. -/
def frmD (D : Nat → Tmp) (a0 : Act) : List Nat → (Nat → Bool) → (Nat → Value) → Act
  | [], _, _ => a0
  | i :: R, p, x => if p i then (frmD D a0 R p x).put (some (D i)) (x i) else frmD D a0 R p x

def upB (p : Nat → Bool) (i : Nat) : Nat → Bool := fun j => if j = i then true else p j
def upV (x : Nat → Value) (i : Nat) (v : Value) : Nat → Value := fun j => if j = i then v else x j

theorem lstD_congr {l0 : Array Bool} {R : List Nat} {p q : Nat → Bool} (h : ∀ i ∈ R, p i = q i) : lstD l0 R p = lstD l0 R q := by
  induction R with
  | nil => rfl
  | cons i R ih =>
    unfold lstD
    rw [h i (by simp), ih fun j hj => h j (by simp [hj])]

theorem frmD_congr {D : Nat → Tmp} {a0 : Act} {R : List Nat} {p q : Nat → Bool} {x y : Nat → Value} (h : ∀ i ∈ R, p i = q i ∧ x i = y i) : frmD D a0 R p x = frmD D a0 R q y := by
  induction R with
  | nil => rfl
  | cons i R ih =>
    unfold frmD
    rw [(h i (by simp)).1, (h i (by simp)).2, ih fun j hj => h j (by simp [hj])]

theorem put_commD (a : Act) {d e : Tmp} (h : d ≠ e) (u v : Value) : (a.put (some d) u).put (some e) v = (a.put (some e) v).put (some d) u := by
  unfold Act.put
  simp only
  rw [Array.setIfInBounds_comm _ _ h]

theorem lstD_set {l0 : Array Bool} {R : List Nat} {p : Nat → Bool} {i : Nat} (hn : R.Nodup) (hi : i ∈ R) (hp : p i = false) : (lstD l0 R p).setIfInBounds i true = lstD l0 R (upB p i) := by
  induction R with
  | nil => simp at hi
  | cons j R ih =>
    obtain ⟨hj, hn'⟩ := List.nodup_cons.1 hn
    by_cases hij : i = j
    · subst hij
      have e : lstD l0 R (upB p i) = lstD l0 R p := lstD_congr fun k hk => by
        have hki : k ≠ i := fun e => hj (by rw [← e]; exact hk)
        unfold upB; rw [if_neg hki]
      unfold lstD
      rw [if_neg (by rw [hp]; simp), if_pos (by simp [upB]), e]
    · have hi' : i ∈ R := by rcases List.mem_cons.1 hi with h | h; exact absurd h hij; exact h
      have e : upB p i j = p j := by unfold upB; rw [if_neg (fun e => hij e.symm)]
      unfold lstD
      rw [e, ← ih hn' hi']
      split
      · rw [Array.setIfInBounds_comm _ _ (fun e => hij e.symm)]
      · rfl

theorem frmD_set {D : Nat → Tmp} {a0 : Act} {R : List Nat} {p : Nat → Bool} {x : Nat → Value} {i : Nat} {v : Value} (hn : R.Nodup) (hD : ∀ i ∈ R, ∀ j ∈ R, D i = D j → i = j) (hi : i ∈ R) (hp : p i = false) : (frmD D a0 R p x).put (some (D i)) v = frmD D a0 R (upB p i) (upV x i v) := by
  induction R with
  | nil => simp at hi
  | cons j R ih =>
    obtain ⟨hj, hn'⟩ := List.nodup_cons.1 hn
    by_cases hij : i = j
    · subst hij
      have e : frmD D a0 R (upB p i) (upV x i v) = frmD D a0 R p x := frmD_congr fun k hk => by
        have hki : k ≠ i := fun e => hj (by rw [← e]; exact hk)
        unfold upB upV; rw [if_neg hki, if_neg hki]; exact ⟨rfl, rfl⟩
      unfold frmD
      rw [if_neg (by rw [hp]; simp), if_pos (by simp [upB]), e]
      simp [upV]
    · have hi' : i ∈ R := by rcases List.mem_cons.1 hi with h | h; exact absurd h hij; exact h
      have e : upB p i j = p j := by unfold upB; rw [if_neg (fun e => hij e.symm)]
      have e' : upV x i v j = x j := by unfold upV; rw [if_neg (fun e => hij e.symm)]
      unfold frmD
      rw [e, e', ← ih hn' (fun a ha b hb => hD a (by simp [ha]) b (by simp [hb])) hi']
      split
      · rw [put_commD _ (fun e => hij (hD i (by simp [hi']) j (by simp) e.symm))]
      · rfl

theorem frmD_other {D : Nat → Tmp} {a0 : Act} {R : List Nat} {p : Nat → Bool} {x : Nat → Value} {t : Tmp} (h : ∀ i ∈ R, D i ≠ t) : (frmD D a0 R p x).eval (.tmp t) = a0.eval (.tmp t) := by
  induction R with
  | nil => rfl
  | cons i R ih =>
    unfold frmD
    split
    · rw [← ih fun j hj => h j (by simp [hj])]
      have := h i (by simp)
      show (Array.setIfInBounds _ _ _).getD t undef = _
      simp [Act.eval, Array.getD_eq_getD_getElem?, this]
    · exact ih fun j hj => h j (by simp [hj])

theorem frmD_size {D : Nat → Tmp} {a0 : Act} {R : List Nat} {p : Nat → Bool} {x : Nat → Value} : (frmD D a0 R p x).tmps.size = a0.tmps.size := by
  induction R with
  | nil => rfl
  | cons i R ih =>
    unfold frmD
    split
    · rw [← ih]; simp [Act.put]
    · exact ih

theorem frmD_at {D : Nat → Tmp} {a0 : Act} {R : List Nat} {p : Nat → Bool} {x : Nat → Value} {i : Nat} (hD : ∀ i ∈ R, ∀ j ∈ R, D i = D j → i = j) (hn : R.Nodup) (hi : i ∈ R) (hp : p i = true) (hs : D i < a0.tmps.size) : (frmD D a0 R p x).eval (.tmp (D i)) = x i := by
  induction R with
  | nil => simp at hi
  | cons j R ih =>
    obtain ⟨hj, hn'⟩ := List.nodup_cons.1 hn
    by_cases hij : i = j
    · subst hij
      unfold frmD
      rw [if_pos hp]
      show (Array.setIfInBounds _ _ _).getD _ undef = _
      have : D i < (frmD D a0 R p x).tmps.size := by rw [frmD_size]; exact hs
      simp [Array.getD_eq_getD_getElem?, this]
    · have hi' : i ∈ R := by rcases List.mem_cons.1 hi with h | h; exact absurd h hij; exact h
      have h' := ih (fun a ha b hb => hD a (by simp [ha]) b (by simp [hb])) hn' hi'
      unfold frmD
      split
      · rw [← h']
        have : D j ≠ D i := fun e => hij (hD i (by simp [hi']) j (by simp) e.symm)
        show (Array.setIfInBounds _ _ _).getD _ undef = _
        simp [Act.eval, Array.getD_eq_getD_getElem?, this]
      · exact h'

def subsD : List Nat → List (List Nat)
  | [] => [[]]
  | i :: R => (subsD R).map (i :: ·) ++ subsD R

theorem filter_subsD (R : List Nat) (p : Nat → Bool) : R.filter p ∈ subsD R := by
  induction R with
  | nil => simp [subsD]
  | cons i R ih =>
    unfold subsD
    rw [List.filter_cons]
    split
    · exact List.mem_append_left _ (List.mem_map.2 ⟨_, ih, rfl⟩)
    · exact List.mem_append_right _ ih

/-- What can come up next, whatever is done. -/
def chkD (md : Region.Mode) (ops : Array Oper) (l0 : Array Bool) (R : List Nat) (dep : Nat → List Nat) : Bool :=
  (subsD R).all fun T => !(T.all fun i => (dep i).all (T.contains ·)) || (R.all (T.contains ·)) ||
    (Region.ready md ops (lstD l0 R (T.contains ·)) == R.filter (fun i => !T.contains i && (dep i).all (T.contains ·)) &&
      !(R.filter (fun i => !T.contains i && (dep i).all (T.contains ·))).isEmpty)

theorem chkD_at {md : Region.Mode} {ops : Array Oper} {l0 : Array Bool} {R : List Nat} {dep : Nat → List Nat} (h : chkD md ops l0 R dep = true) (hdep : ∀ i ∈ R, ∀ j ∈ dep i, j ∈ R) (p : Nat → Bool) (hc : ∀ i ∈ R, p i = true → ∀ j ∈ dep i, p j = true) (hex : ∃ i ∈ R, p i = false) :
    Region.ready md ops (lstD l0 R p) = R.filter (fun i => !p i && (dep i).all p) ∧ R.filter (fun i => !p i && (dep i).all p) ≠ [] := by
  have hT := List.all_eq_true.1 h _ (filter_subsD R p)
  have hin : ∀ i ∈ R, (R.filter p).contains i = p i := fun i hi => by
    cases hp : p i
    · rw [List.contains_eq_mem, decide_eq_false_iff_not]; intro e; have := (List.mem_filter.1 e).2; rw [hp] at this; cases this
    · rw [List.contains_eq_mem, decide_eq_true_iff]; exact List.mem_filter.2 ⟨hi, hp⟩
  have hda : ∀ i ∈ R, (dep i).all ((R.filter p).contains ·) = (dep i).all p := fun i hi => by
    rw [Bool.eq_iff_iff, List.all_eq_true, List.all_eq_true]
    exact forall_congr' fun j => forall_congr' fun hj => by rw [hin j (hdep i hi j hj)]
  have hcl : ((R.filter p).all fun i => (dep i).all ((R.filter p).contains ·)) = true := by
    rw [List.all_eq_true]
    intro i hi
    obtain ⟨hi, hp⟩ := List.mem_filter.1 hi
    rw [hda i hi, List.all_eq_true]
    exact fun j hj => hc i hi hp j hj
  have hf : R.filter (fun i => !(R.filter p).contains i && (dep i).all ((R.filter p).contains ·)) = R.filter (fun i => !p i && (dep i).all p) := by
    apply List.filter_congr
    intro i hi
    rw [hin i hi, hda i hi]
  have hl : lstD l0 R ((R.filter p).contains ·) = lstD l0 R p := lstD_congr hin
  have hna : (R.all ((R.filter p).contains ·)) = false := by
    obtain ⟨i, hi, hp⟩ := hex
    rw [List.all_eq_false]
    exact ⟨i, hi, by rw [hin i hi, hp]; simp⟩
  rw [hcl, hf, hl, hna] at hT
  simp only [Bool.not_true, Bool.false_or, Bool.and_eq_true, beq_iff_eq, Bool.not_eq_true', List.isEmpty_eq_false_iff] at hT
  exact hT

section
variable {P : Program} {ops : Array Oper} {Q : Exit → Act → World → Prop} {md : Region.Mode} {S : World → Prop}

/-- All orders in which R's operations come up. I: what holds of those that are done, p, of what they yielded, x, and of the world. -/
theorem any_set (R : List Nat) (D : Nat → Tmp) (dep : Nat → List Nat) (I : (Nat → Bool) → (Nat → Value) → World → Prop) {fuel : Nat} {l0 : Array Bool} {a0 : Act} {w : World} (x0 : Nat → Value)
    (hn : R.Nodup) (hD : ∀ i ∈ R, ∀ j ∈ R, D i = D j → i = j) (hdep : ∀ i ∈ R, ∀ j ∈ dep i, j ∈ R) (hds : ∀ i ∈ R, ∃ o, ops[i]? = some o ∧ o.dst = some (D i) ∧ o.guard = none) (hck : chkD md ops l0 R dep = true) (hS : ∀ p x w, I p x w → S w)
    (step : ∀ i ∈ R, ∀ (p : Nat → Bool) (x : Nat → Value) (w : World) (o : Oper), ops[i]? = some o → p i = false → (∀ j ∈ dep i, p j = true) → I p x w → ∀ K : Act → World → Prop, (∀ v w', I (upB p i) (upV x i v) w' → K ((frmD D a0 R p x).put (some (D i)) v) w') → Oper.wp P o (frmD D a0 R p x) w K Q)
    (h0 : I (fun _ => false) x0 w) (fin : ∀ x w, I (fun i => R.contains i) x w → wpAnyH P md ops Q S fuel (lstD l0 R (fun _ => true)) (frmD D a0 R (fun _ => true) x) w) :
    wpAnyH P md ops Q S (fuel + R.length) l0 a0 w := by
  have main : ∀ (m : Nat) (p : Nat → Bool) (x : Nat → Value) (w : World), (R.filter (fun i => !p i)).length = m → (∀ i, p i = true → i ∈ R) → (∀ i ∈ R, p i = true → ∀ j ∈ dep i, p j = true) → I p x w → wpAnyH P md ops Q S (fuel + m) (lstD l0 R p) (frmD D a0 R p x) w := by
    intro m
    induction m with
    | zero =>
      intro p x w hm hpR hc hI
      have hall : ∀ i ∈ R, p i = true := fun i hi => by
        cases hp : p i
        · have : i ∈ R.filter (fun i => !p i) := List.mem_filter.2 ⟨hi, by rw [hp]; rfl⟩
          rw [List.length_eq_zero_iff.1 hm] at this
          simp at this
        · rfl
      have e1 : p = fun i => R.contains i := funext fun i => by
        by_cases hi : i ∈ R
        · rw [hall i hi]; simp [hi]
        · have : p i = false := by cases hp : p i; rfl; exact absurd (hpR i hp) hi
          rw [this]; simp [hi]
      rw [lstD_congr (q := fun _ => true) hall, frmD_congr (q := fun _ => true) (y := x) fun i hi => ⟨hall i hi, rfl⟩]
      exact fin x w (e1 ▸ hI)
    | succ m ih =>
      intro p x w hm hpR hc hI
      have hex : ∃ i ∈ R, p i = false := by
        cases hf : R.filter (fun i => !p i) with
        | nil => rw [hf] at hm; simp at hm
        | cons i rs =>
          have : i ∈ R.filter (fun i => !p i) := by rw [hf]; simp
          obtain ⟨h1, h2⟩ := List.mem_filter.1 this
          exact ⟨i, h1, by simpa using h2⟩
      obtain ⟨hr, hne⟩ := chkD_at hck hdep p hc hex
      refine wpAnyH_ready hr hne ?_
      have all : ∀ rs : List Nat, (∀ i ∈ rs, i ∈ R ∧ p i = false ∧ ∀ j ∈ dep i, p j = true) → AllReadyH P md ops Q S (fuel + m) (lstD l0 R p) (frmD D a0 R p x) w rs := by
        intro rs
        induction rs with
        | nil => intro _; exact AllReadyH.nil
        | cons i rs ihr =>
          intro hrs
          obtain ⟨hi, hp, hd⟩ := hrs i (by simp)
          obtain ⟨o, ho, hod, hog⟩ := hds i hi
          refine AllReadyH.cons ho (fun K hK => ?_) (ihr fun j hj => hrs j (by simp [hj]))
          rw [if_pos (by unfold Region.wanted; rw [hog])]
          refine step i hi p x w o ho hp hd hI K fun v w' hI' => ?_
          refine hK.out _ _ (hS _ _ _ hI') fun _ => ?_
          rw [lstD_set hn hi hp, frmD_set hn hD hi hp]
          refine ih (upB p i) (upV x i v) w' ?_ ?_ ?_ hI'
          · have e : R.filter (fun j => !upB p i j) = (R.filter (fun j => !p j)).filter (fun j => !(j == i)) := by
              rw [List.filter_filter]
              apply List.filter_congr
              intro j _
              unfold upB
              by_cases hj : j = i
              · simp [hj]
              · simp [hj]
            have hmem : i ∈ R.filter (fun j => !p j) := List.mem_filter.2 ⟨hi, by rw [hp]; rfl⟩
            have hnd : (R.filter (fun j => !p j)).Nodup := hn.filter _
            have e2 : (R.filter (fun j => !p j)).filter (fun j => !(j == i)) = (R.filter (fun j => !p j)).erase i := by
              rw [hnd.erase_eq_filter]; rfl
            rw [e, e2, List.length_erase_of_mem hmem, hm]; rfl
          · intro j hj
            unfold upB at hj
            by_cases hji : j = i
            · rw [hji]; exact hi
            · rw [if_neg hji] at hj; exact hpR j hj
          · intro j hj hpj q hq
            unfold upB at hpj ⊢
            by_cases hqi : q = i
            · rw [if_pos hqi]
            · rw [if_neg hqi]
              by_cases hji : j = i
              · subst hji; exact hd q hq
              · rw [if_neg hji] at hpj; exact hc j hj hpj q hq
      refine all _ fun i hi => ?_
      obtain ⟨h1, h2⟩ := List.mem_filter.1 hi
      rw [Bool.and_eq_true, Bool.not_eq_true', List.all_eq_true] at h2
      exact ⟨h1, h2.1, h2.2⟩
  have e0 : R.filter (fun i => !(fun _ => false : Nat → Bool) i) = R := by simp
  have h := main R.length (fun _ => false) x0 w (by rw [e0]) (fun i hi => by cases hi) (fun i _ hi => by cases hi) h0
  have el : ∀ R : List Nat, lstD l0 R (fun _ => false) = l0 := fun R => by induction R with | nil => rfl | cons i R ih => unfold lstD; simp [ih]
  have ef : ∀ R : List Nat, frmD D a0 R (fun _ => false) x0 = a0 := fun R => by induction R with | nil => rfl | cons i R ih => unfold frmD; simp [ih]
  rw [el, ef] at h
  exact h

/-- The same, where each operation's value is told by itself and stays when memory is made. -/
theorem any_make (R : List Nat) (D : Nat → Tmp) (dep : Nat → List Nat) (B : World) (G : Nat → Value → World → Prop) {fuel : Nat} {l0 : Array Bool} {a0 : Act} {w : World}
    (hmono : ∀ i v w w', G i v w → Below w.heap.size w w' → G i v w')
    (hn : R.Nodup) (hD : ∀ i ∈ R, ∀ j ∈ R, D i = D j → i = j) (hsz : (R.all fun i => decide (D i < a0.tmps.size)) = true) (hdep : ∀ i ∈ R, ∀ j ∈ dep i, j ∈ R) (hds : (R.all fun i => match ops[i]? with | some o => o.dst == some (D i) && o.guard.isNone | none => false) = true) (hck : chkD md ops l0 R dep = true) (hS : ∀ w, S w)
    (step : ∀ i ∈ R, ∀ (a : Act) (x : Nat → Value) (w : World) (o : Oper), ops[i]? = some o → (∀ t, (∀ j ∈ R, D j ≠ t) → a.eval (.tmp t) = a0.eval (.tmp t)) → (∀ j ∈ dep i, a.eval (.tmp (D j)) = x j ∧ G j (x j) w) → Below B.heap.size B w → ∀ K : Act → World → Prop, (∀ v w', G i v w' → Below w.heap.size w w' → K (a.put (some (D i)) v) w') → Oper.wp P o a w K Q)
    (h0 : Below B.heap.size B w) (fin : ∀ x w, Below B.heap.size B w → (∀ i ∈ R, G i (x i) w) → wpAnyH P md ops Q S fuel (lstD l0 R (fun _ => true)) (frmD D a0 R (fun _ => true) x) w) :
    wpAnyH P md ops Q S (fuel + R.length) l0 a0 w := by
  refine any_set R D dep (fun p x w => Below B.heap.size B w ∧ ∀ i ∈ R, p i = true → G i (x i) w) (fun _ => undef) hn hD hdep (fun i hi => ?_) hck (fun _ _ w _ => hS w) ?_ ⟨h0, fun i _ hi => by cases hi⟩ ?_
  · have h := List.all_eq_true.1 hds i hi
    cases ho : ops[i]? with
    | none => rw [ho] at h; simp at h
    | some o =>
      rw [ho] at h
      simp only [Bool.and_eq_true, beq_iff_eq, Option.isNone_iff_eq_none] at h
      exact ⟨o, rfl, h.1, h.2⟩
  · rintro i hi p x w o ho hp hd ⟨hb, hG⟩ K hK
    refine step i hi (frmD D a0 R p x) x w o ho (fun t ht => frmD_other ht) (fun j hj => ⟨?_, hG j (hdep i hi j hj) (hd j hj)⟩) hb K fun v w' hv hb' => hK v w' ⟨hb.trans (hb'.mono hb.size), fun j hj hpj => ?_⟩
    · exact frmD_at hD hn (hdep i hi j hj) (hd j hj) (of_decide_eq_true (List.all_eq_true.1 hsz j (hdep i hi j hj)))
    · unfold upV
      by_cases hji : j = i
      · rw [if_pos hji, hji]; exact hv
      · rw [if_neg hji]
        unfold upB at hpj
        rw [if_neg hji] at hpj
        exact hmono _ _ _ _ (hG j hj hpj) hb'
  · rintro x w ⟨hb, hG⟩
    exact fin x w hb fun i hi => hG i hi (by simp [hi])

/-- The same, where the world goes on by L and J holds of it all the way, whatever is done. -/
theorem any_go (R : List Nat) (D : Nat → Tmp) (dep : Nat → List Nat) (L : World → World → Prop) (J : (Nat → Bool) → World → Prop) (G : Nat → Value → World → Prop) {fuel : Nat} {l0 : Array Bool} {a0 : Act} {w : World}
    (hmono : ∀ i v w w', G i v w → L w w' → G i v w')
    (hn : R.Nodup) (hD : ∀ i ∈ R, ∀ j ∈ R, D i = D j → i = j) (hsz : (R.all fun i => decide (D i < a0.tmps.size)) = true) (hdep : ∀ i ∈ R, ∀ j ∈ dep i, j ∈ R) (hds : (R.all fun i => match ops[i]? with | some o => o.dst == some (D i) && o.guard.isNone | none => false) = true) (hck : chkD md ops l0 R dep = true) (hS : ∀ p w, J p w → S w)
    (step : ∀ i ∈ R, ∀ (p : Nat → Bool) (a : Act) (x : Nat → Value) (w : World) (o : Oper), ops[i]? = some o → p i = false → (∀ t, (∀ j ∈ R, D j ≠ t) → a.eval (.tmp t) = a0.eval (.tmp t)) → (∀ j ∈ dep i, p j = true ∧ a.eval (.tmp (D j)) = x j ∧ G j (x j) w) → J p w → ∀ K : Act → World → Prop, (∀ v w', G i v w' → L w w' → J (upB p i) w' → K (a.put (some (D i)) v) w') → Oper.wp P o a w K Q)
    (h0 : J (fun _ => false) w) (fin : ∀ x w, J (fun i => R.contains i) w → (∀ i ∈ R, G i (x i) w) → wpAnyH P md ops Q S fuel (lstD l0 R (fun _ => true)) (frmD D a0 R (fun _ => true) x) w) :
    wpAnyH P md ops Q S (fuel + R.length) l0 a0 w := by
  refine any_set R D dep (fun p x w => J p w ∧ ∀ i ∈ R, p i = true → G i (x i) w) (fun _ => undef) hn hD hdep (fun i hi => ?_) hck (fun p _ w h => hS p w h.1) ?_ ⟨h0, fun i _ hi => by cases hi⟩ ?_
  · have h := List.all_eq_true.1 hds i hi
    cases ho : ops[i]? with
    | none => rw [ho] at h; simp at h
    | some o =>
      rw [ho] at h
      simp only [Bool.and_eq_true, beq_iff_eq, Option.isNone_iff_eq_none] at h
      exact ⟨o, rfl, h.1, h.2⟩
  · rintro i hi p x w o ho hp hd ⟨hb, hG⟩ K hK
    refine step i hi p (frmD D a0 R p x) x w o ho hp (fun t ht => frmD_other ht) (fun j hj => ⟨hd j hj, ?_, hG j (hdep i hi j hj) (hd j hj)⟩) hb K fun v w' hv hb' hJ => hK v w' ⟨hJ, fun j hj hpj => ?_⟩
    · exact frmD_at hD hn (hdep i hi j hj) (hd j hj) (of_decide_eq_true (List.all_eq_true.1 hsz j (hdep i hi j hj)))
    · unfold upV
      by_cases hji : j = i
      · rw [if_pos hji, hji]; exact hv
      · rw [if_neg hji]
        unfold upB at hpj
        rw [if_neg hji] at hpj
        exact hmono _ _ _ _ (hG j hj hpj) hb'
  · rintro x w ⟨hb, hG⟩
    exact fin x w hb fun i hi => hG i hi (by simp [hi])

theorem evalD {a : Act} {t : Tmp} {v : Value} (h : a.eval (.tmp t) = v) : a.tmps[t]?.getD undef = v := by
  rw [← h]; simp [Act.eval]

theorem oper_val {o : Oper} {a : Act} {w w' : World} {K : Act → World → Prop} {d : Option Tmp} {v : Value} (hd : o.dst = d) (hr : (execOp a.eval o).run P w = .ok (.value v) w') (h : K (a.put d v) w') : Oper.wp P o a w K Q := by
  subst hd
  unfold Oper.wp
  rw [hr]
  exact h

theorem oper_call {o : Oper} {a : Act} {w : World} {K : Act → World → Prop} {d : Option Tmp} (hd : o.dst = d) (f : FuncId) (fn : Func) (xs : Array Operand) (ts : Array TypeId) (hop : o.op = Op.call { callee := Callee.value (Operand.func f), args := xs, argTypes := ts })
    (hfn : P.funcs[f]? = some fn) (hnm : (fn.name == "runtime.NumGoroutine") = false) (hbd : fn.body.isNone = false) (args : Array Value) (hargs : xs.map a.eval = args) (R : Ending → World → Prop) (hc : Calls P f args w R)
    (h : ∀ e w', R e w' → ∃ v, e = .returned v ∧ K (a.put d v) w') : Oper.wp P o a w K Q := by
  subst hd
  unfold Oper.wp
  rw [run_callw f fn xs ts hop hfn hnm hbd, hargs, Oper.upon_enter]
  refine hc.mono fun e w'' hh => ?_
  obtain ⟨v, rfl, hk⟩ := h e w'' hh
  exact hk
end
end Go.Proofs.Ytedbihlpggficab


/- Lists that an append has made: a block of its own, in which there may be more room; what markIntS writes into one; and the state of a law over a net whose answer is such a list. -/
namespace Go.Proofs.Ytedbihlpggficab
open Go.RowKit

/-- A slice of n numbers from the head of the block b, in which there may be more room; or an empty one. -/
def Ob (w : World) (a : Option Addr) (b n : Nat) (xs : List Int) : Prop :=
  xs.length = n ∧ (n = 0 ∨ (a = some ⟨b, 0, none⟩ ∧ ∃ cur, w.heap[b]? = some (.cells cur 3 (0, 0)) ∧ n ≤ cur.size ∧ ∀ i, i < n → cur[i]? = some (.int .i64 (xs.getD i 0))))

theorem Ob.row {w : World} {a : Option Addr} {b n : Nat} {xs : List Int} (h : Ob w a b n xs) : Row w a n xs := by
  rcases h.2 with h0 | ⟨e, cur, h1, h2, h3⟩
  · exact ⟨h.1, .inl h0⟩
  · refine ⟨h.1, .inr ⟨b, 0, e, (Array.getElem?_eq_some_iff.mp h1).1, fun i hi => ?_⟩⟩
    rw [cell_of_row w b (0 + i) _ _ _ h1, Nat.zero_add]
    exact h3 i hi

theorem Ob.grow {w w' : World} {a : Option Addr} {b n : Nat} {xs : List Int} (h : Ob w a b n xs) (hb : Below w.heap.size w w') : Ob w' a b n xs := by
  refine ⟨h.1, ?_⟩
  rcases h.2 with h0 | ⟨e, cur, h1, h2⟩
  · exact .inl h0
  · exact .inr ⟨e, cur, (hb.block b (Array.getElem?_eq_some_iff.mp h1).1).trans h1, h2⟩

theorem Ob.only {w w' : World} {a : Option Addr} {b c n : Nat} {xs : List Int} (h : Ob w a b n xs) (ho : Only c w w') (hB : b ≠ c) : Ob w' a b n xs := by
  refine ⟨h.1, ?_⟩
  rcases h.2 with h0 | ⟨e, cur, h1, h2⟩
  · exact .inl h0
  · exact .inr ⟨e, cur, (ho.block b hB).trans h1, h2⟩

theorem Ob.keeps {w w' : World} {a : Option Addr} {b n lo hi : Nat} {xs : List Int} (h : Ob w a b n xs) (hk : Keeps lo hi w w') (hb : hi ≤ b) : Ob w' a b n xs := by
  refine ⟨h.1, ?_⟩
  rcases h.2 with h0 | ⟨e, cur, h1, h2⟩
  · exact .inl h0
  · exact .inr ⟨e, cur, (hk.top b hb (Array.getElem?_eq_some_iff.mp h1).1).trans h1, h2⟩

/-- The first k of n numbers are there. -/
def FillR (xs : List Int) (n k : Nat) (cs : Array Value) : Prop := n ≤ cs.size ∧ ∀ i, i < k → cs[i]? = some (.int .i64 (xs.getD i 0))

theorem set_fillR {xs : List Int} {n k : Nat} {cs : Array Value} {x : Int} (h : FillR xs n k cs) (hk : k < n) (hx : xs.getD k 0 = x) : FillR xs n (k + 1) (cs.setIfInBounds k (.int .i64 x)) := by
  obtain ⟨h1, h2⟩ := h
  refine ⟨by simp; exact h1, fun i hi => ?_⟩
  rw [Array.getElem?_setIfInBounds]
  by_cases e : k = i
  · subst e; rw [if_pos rfl, if_pos (by omega), hx]
  · rw [if_neg e]; exact h2 i (by omega)

set_option maxHeartbeats 400000 in
theorem markO_any (a : Option Addr) (b n c k0 : Nat) (xs : List Int) (w : World) (h : Ob w a b n xs) (hn : n ≤ 1048576) (hk0 : k0 ≤ 4194304) :
    Calls Try.prog 19 #[.slice a n c, .int .i64 (k0 : Int)] w fun e w' => e = .returned (.int .i64 ((k0 + n : Nat) : Int)) ∧ Ob w' a b n (seqL k0 n) ∧ Only b w w' := by
  have HB := hide h
  clear h
  go_enter Try.func19, Try.ntmps19
  go_wp2
  go_loopw [1, 5] (fun t i wr => ∃ k : Nat, k ≤ n ∧ i = .int .i64 k ∧ t = .int .i64 ((k0 + k : Nat) : Int) ∧ Only b w wr ∧ (n = 0 ∨ (a = some ⟨b, 0, none⟩ ∧ ∃ cs, FillR (seqL k0 n) n k cs ∧ wr.heap[b]? = some (.cells cs 3 (0, 0))))) (fun _ i _ => n - (intOf i).toNat)
  case atStart =>
    refine ⟨0, Nat.zero_le _, rfl, rfl, Only.refl _ _, ?_⟩
    rcases HB.out.2 with h0 | ⟨e, hh⟩
    · exact .inl h0
    · obtain ⟨cur, q1, q2, _⟩ := hh
      exact .inr ⟨e, cur, ⟨q2, fun i hi => absurd hi (by omega)⟩, q1⟩
  case round =>
    obtain ⟨k, hk, rfl, rfl, ho, hd⟩ := hrel
    by_cases hlt : k < n
    · obtain ⟨rfl, cs, hf, hh⟩ : a = some ⟨b, 0, none⟩ ∧ ∃ cs, FillR (seqL k0 n) n k cs ∧ wr.heap[b]? = some (.cells cs 3 (0, 0)) := by
        rcases hd with h0 | h
        · omega
        · exact h
      have HF := hide (set_fillR hf hlt (seqL_at k0 n k hlt))
      have hsz := hf.1
      obtain ⟨v0, hv0⟩ : ∃ v0, wr.cell? ⟨b, k, none⟩ = some v0 := ⟨_, by rw [cell_of_row wr b k cs _ _ hh]; exact Array.getElem?_eq_getElem (by omega)⟩
      have hfr := frozen_of_row wr b k cs _ hh
      have HH := hide (heap_setCell_same wr b k cs _ (.int .i64 ((k0 + k : Nat) : Int)) hh)
      have HO := hide (ho.setCell k (.int .i64 ((k0 + k : Nat) : Int)))
      have hb1 : ((k0 + k : Nat) : Int) ≤ 5242880 := by omega
      have hb0 : (0 : Int) ≤ ((k0 + k : Nat) : Int) := by omega
      obtain ⟨t, ht⟩ : ∃ t : Nat, Hid (k0 + k = t) := ⟨_, rfl⟩
      rw [ht.out] at hb1 hb0 HF HH HO ⊢
      clear hd ho hf hh HB
      go_wp2
      go_roundw
      case rel => exact ⟨k + 1, by omega, by go_num, by rw [show k0 + (k + 1) = t + 1 by have := ht.out; omega]; go_num, HO.out, by first | exact .inr ⟨rfl, _, HF.out, HH.out⟩ | exact .inr ⟨trivial, _, HF.out, HH.out⟩⟩
      case measure => simp [intOf]; omega
    · have hk' : k = n := by omega
      subst hk'
      have HD := hide hd
      have HO := hide ho
      clear hd ho
      go_wp2
      go_ret
      refine ⟨rfl, ⟨seqL_len _ _, ?_⟩, HO.out⟩
      rcases HD.out with h0 | ⟨e, cs, hf, hh⟩
      · exact .inl h0
      · exact .inr ⟨e, cs, hh, hf.1, hf.2⟩


/-- w: the world ahead of the law; u: behind the specification's answer; v: now. -/
structure So (w u v : World) (p : Int) (a : Option Addr) (n c B hi bx : Nat) (M : Nat → List Int) (ax : Option Addr) (b1 nm : Nat) (ly : List Int) (ag : Option Addr) (bg ng : Nat) (lg : List Int) : Prop where
  old : Below w.heap.size w v
  mid : Below u.heap.size u v
  par : v.heap[w.heap.size]? = some (.cells #[.int .i64 p, .slice a n c] 24 (0, 0))
  x0 : v.heap[bx]? = some (.cells #[.int .i64 p, .slice (some ⟨B, 0, none⟩) n n] 31 (0, 0))
  net : PartF v B hi (3 * n) 89 M
  x1 : Blk v ax b1 nm ly
  g : Ob v ag bg ng lg

variable {w u v v' : World} {p : Int} {a : Option Addr} {n c B hi bx : Nat} {M : Nat → List Int} {ax : Option Addr} {b1 nm : Nat} {ly : List Int} {ag : Option Addr} {bg ng : Nat} {lg l : List Int}

theorem So.grow (h : So w u v p a n c B hi bx M ax b1 nm ly ag bg ng lg) (hb : Below v.heap.size v v') : So w u v' p a n c B hi bx M ax b1 nm ly ag bg ng lg :=
  ⟨h.old.trans (hb.mono h.old.size), h.mid.trans (hb.mono h.mid.size), keep h.par hb, keep h.x0 hb, h.net.grow hb, h.x1.grow' hb, h.g.grow hb⟩

theorem So.markN {M' : Nat → List Int} (h : So w u v p a n c B hi bx M ax b1 nm ly ag bg ng lg) (hm : PartF v' B hi (3 * n) 89 M') (hk : Keeps (B + 1) hi v v') (h1 : w.heap.size ≤ B) (h2 : u.heap.size ≤ B) (hx : hi ≤ bx) (hy : hi ≤ b1) (hg : hi ≤ bg) :
    So w u v' p a n c B hi bx M' ax b1 nm ly ag bg ng lg :=
  ⟨h.old.trans (hk.bel.mono (by omega)), h.mid.trans (hk.bel.mono (by omega)), (hk.bel.block _ (by omega)).trans h.par, (hk.top bx hx (row_lt h.x0)).trans h.x0, hm, h.x1.keeps hk hy, h.g.keeps hk hg⟩

theorem So.markX (h : So w u v p a n c B hi bx M ax b1 nm ly ag bg ng lg) (hm : Blk v' ax b1 nm l) (ho : Only b1 v v') (h1 : w.heap.size < b1) (h2 : u.heap.size ≤ b1) (hb : hi ≤ b1) (hB : B ≠ b1) (hx : bx ≠ b1) (hg : bg ≠ b1) :
    So w u v' p a n c B hi bx M ax b1 nm l ag bg ng lg :=
  ⟨h.old.trans (ho.below (by omega)), h.mid.trans (ho.below h2), (ho.block _ (by omega)).trans h.par, (ho.block _ hx).trans h.x0, h.net.only ho hb hB, hm, h.g.only ho hg⟩

theorem So.markG (h : So w u v p a n c B hi bx M ax b1 nm ly ag bg ng lg) (hm : Ob v' ag bg ng l) (ho : Only bg v v') (h1 : w.heap.size < bg) (h2 : u.heap.size ≤ bg) (hb : hi ≤ bg) (hB : B ≠ bg) (hx : bx ≠ bg) (hy : b1 ≠ bg) :
    So w u v' p a n c B hi bx M ax b1 nm ly ag bg ng l :=
  ⟨h.old.trans (ho.below (by omega)), h.mid.trans (ho.below h2), (ho.block _ (by omega)).trans h.par, (ho.block _ hx).trans h.x0, h.net.only ho hb hB, h.x1.only ho hy, hm⟩
end Go.Proofs.Ytedbihlpggficab


/- The numbers of the transitions of a net that are as asked: the specification's TakersOf and GiversOf. -/
namespace Go.Proofs.Ytedbihlpggficab
open Go.RowKit

/-- The numbers below k that are as asked. -/
def numsL (f : Nat → Bool) (k : Nat) : List Int := ((List.range k).filter f).map fun (i : Nat) => (i : Int)

theorem numsL_yes {f : Nat → Bool} {k : Nat} (h : f k = true) : numsL f (k + 1) = numsL f k ++ [(k : Int)] := by simp [numsL, List.range_succ, List.filter_append, h]
theorem numsL_no {f : Nat → Bool} {k : Nat} (h : f k = false) : numsL f (k + 1) = numsL f k := by simp [numsL, List.range_succ, List.filter_append, h]
theorem numsL_len (f : Nat → Bool) (k : Nat) : (numsL f k).length ≤ k := by
  unfold numsL
  rw [List.length_map]
  have := List.length_filter_le f (List.range k)
  rwa [List.length_range] at this

/-- A list that an append has made, handed back alone. -/
def NumsEnd (f : Nat → Bool) (n : Nat) (w : World) (e : Ending) (w' : World) : Prop :=
  ∃ v m, e = .returned v ∧ w'.ownsRow w.heap.size 3 1 v m ((numsL f n).map (Value.int .i64)) ∧ Below w.heap.size w w'

theorem own_below {B : Nat} {w w' : World} {v : Value} {n : Nat} {l : List Value} (hown : w.ownsRow B 3 1 v n l) (hg : w.grownBy w' v.ownBlock) {a : World} {C : Nat} (h : Below C a w) (hC : C ≤ w.heap.size) (hB : C ≤ B) : Below C a w' := by
  refine h.grown hg hC fun k hk => ?_
  rcases hown.2 with ⟨rfl, _⟩ | ⟨g, cap, cur, rfl, hb, _⟩
  · simp [Value.ownBlock] at hk
  · simp [Value.ownBlock] at hk; omega

theorem one_cell (w : World) (v : Value) : ∀ j u, ([v] : List Value)[j]? = some u → (w.alloc (.cells #[v] 3)).cell? ((⟨w.heap.size, 0, none⟩ : Addr).add j) = some u := by
  intro j u hu
  match j, hu with
  | 0, hu =>
    simp at hu; subst hu
    rw [Addr.add_mid]
    exact cell_of_row _ w.heap.size 0 #[v] _ _ (heap_alloc_new _ _)
  | (q + 1), hu => simp at hu

end Go.Proofs.Ytedbihlpggficab


/- The specification's TakersOf and GiversOf, for every net and place. -/
namespace Go.Proofs.Ytedbihlpggficab
open Go.RowKit

theorem netOkN' {p : Int} {n : Nat} {L : List (List Int)} (h : netOk p n L = true) : n ≤ 24 := by
  unfold netOk at h; simp at h; exact h.1.2
theorem netOkP' {p : Int} {n : Nat} {L : List (List Int)} (h : netOk p n L = true) : 1 ≤ p ∧ p ≤ 16 := by
  unfold netOk at h; simp [inB] at h; omega

def atOk (p : Int) (n : Nat) (L : List (List Int)) (q : Int) : Bool := netOk p n L && inB q 0 (p - 1)
def atR (f : Nat → Bool) (p : Int) (n : Nat) (L : List (List Int)) (q : Int) : List Int := if atOk p n L q then numsL f n else []

/-- A list and a bool; nothing that was there is written. -/
def WEnd (g : Bool) (r : List Int) (w : World) (e : Ending) (w' : World) : Prop := ∃ a n c, e = .returned (.tuple #[.slice a n c, .bool g]) ∧ Row w' a n r ∧ Below w.heap.size w w'

theorem wend_no {f : Nat → Bool} {p : Int} {n : Nat} {L : List (List Int)} {q : Int} {w w' : World} (h : atOk p n L q = false) (hb : Below w.heap.size w w') : WEnd (atOk p n L q) (atR f p n L q) w (.returned (.tuple #[.slice none 0 0, .bool false])) w' := by
  refine ⟨none, 0, 0, by rw [h], ⟨?_, .inl rfl⟩, hb⟩
  unfold atR; rw [h]; rfl

theorem wend_yes {f : Nat → Bool} {p : Int} {n : Nat} {L : List (List Int)} {q : Int} {w w' : World} {a : Option Addr} {m c : Nat} (h : atOk p n L q = true) (hr : Row w' a m (numsL f n)) (hb : Below w.heap.size w w') : WEnd (atOk p n L q) (atR f p n L q) w (.returned (.tuple #[.slice a m c, .bool true])) w' := by
  refine ⟨a, m, c, by rw [h], ?_, hb⟩
  unfold atR; rw [h]; exact hr

/-- .. in a block of its own. -/
def OEnd (g : Bool) (r : List Int) (w : World) (e : Ending) (w' : World) : Prop :=
  ∃ a b n c, e = .returned (.tuple #[.slice a n c, .bool g]) ∧ Ob w' a b n r ∧ w.heap.size ≤ b ∧ Below w.heap.size w w'

theorem own_ob {B : Nat} {w : World} {v : Value} {n : Nat} {l : List Int} (hown : w.ownsRow B 3 1 v n (l.map (Value.int .i64))) : ∃ a b c, v = .slice a n c ∧ B ≤ b ∧ Ob w a b n l := by
  have hl : l.length = n := by have := hown.1; simpa using this
  rcases hown.2 with ⟨rfl, rfl⟩ | ⟨g, cap, cur, rfl, hb, hh, hnc, _, hsz, ht⟩
  · exact ⟨none, B, 0, rfl, Nat.le_refl _, hl, .inl rfl⟩
  · refine ⟨_, g, cap, rfl, hb, hl, .inr ⟨rfl, cur, hh, by omega, fun i hi => ?_⟩⟩
    have e : (cur.toList.take (n * 1))[i]? = (l.map (Value.int .i64))[i]? := by rw [ht]
    rw [List.getElem?_take_of_lt (by omega), Array.getElem?_toList] at e
    rw [e]
    simp [List.getElem?_eq_getElem (show i < l.length by omega)]

theorem own_row {B : Nat} {w : World} {v : Value} {n : Nat} {l : List Int} (hown : w.ownsRow B 3 1 v n (l.map (Value.int .i64))) : ∃ a c, v = .slice a n c ∧ Row w a n l := by
  obtain ⟨a, b, c, e, _, ho⟩ := own_ob hown
  exact ⟨a, c, e, ho.row⟩

end Go.Proofs.Ytedbihlpggficab


/- numbersWhere of the program, and its TakersOf and GiversOf. -/
namespace Go.Proofs.Ytedbihlpggficab
open Go.RowKit
set_option maxRecDepth 10000

theorem PartS.at2 {w : World} {B n k : Nat} {L : List (List Int)} (h : PartS w B (3 * n) (3 * n) L) (hk : k < n) :
    w.cell? ⟨B, k * 3, none⟩ = some (.int .u16 (maskL (L.getD (3 * k) []) : Int)) ∧ w.cell? ⟨B, k * 3 + 1, none⟩ = some (.int .u16 (maskL (L.getD (3 * k + 1) []) : Int)) ∧ w.cell? ⟨B, k * 3 + 2, none⟩ = some (.int .u16 (maskL (L.getD (3 * k + 2) []) : Int)) := by
  obtain ⟨C, h1, h2, h3⟩ := h
  refine ⟨?_, ?_, ?_⟩
  · rw [cell_of_row w B _ C _ _ h1, Nat.mul_comm]; exact h3 _ (by omega)
  · rw [cell_of_row w B _ C _ _ h1, Nat.mul_comm]; exact h3 _ (by omega)
  · rw [cell_of_row w B _ C _ _ h1, Nat.mul_comm]; exact h3 _ (by omega)

theorem own_grow {B : Nat} {w w' : World} {v : Value} {n : Nat} {l : List Value} (hown : w.ownsRow B 3 1 v n l) (hb : Below w.heap.size w w') : w'.ownsRow B 3 1 v n l := by
  refine ⟨hown.1, ?_⟩
  rcases hown.2 with h0 | ⟨g, cap, cur, e, h1, h2, h3⟩
  · exact .inl h0
  · exact .inr ⟨g, cap, cur, e, h1, (hb.block g (Array.getElem?_eq_some_iff.mp h2).1).trans h2, h3⟩

end Go.Proofs.Ytedbihlpggficab


/- The program's Fire, for every net, mark and number in memory. -/
namespace Go.Proofs.Ytedbihlpggficab
open Go.RowKit
set_option maxRecDepth 10000

/-- A list in a block of its own and a bool; nothing that was there is written. -/
def LEnd (g : Bool) (r : List Int) (w : World) (e : Ending) (w' : World) : Prop :=
  ∃ a b n, e = .returned (.tuple #[.slice a n n, .bool g]) ∧ Blk w' a b n r ∧ w.heap.size ≤ b ∧ Below w.heap.size w w'

theorem lend_no {p : Int} {n : Nat} {L : List (List Int)} {ys : List Int} {t : Int} {w w' : World} (h : fireOk p n L ys t = false) (hb : Below w.heap.size w w') : LEnd (fireOk p n L ys t) (fireR p n L ys t) w (.returned (.tuple #[.slice none 0 0, .bool false])) w' := by
  refine ⟨none, w.heap.size, 0, by rw [h], ⟨?_, .inl rfl⟩, Nat.le_refl _, hb⟩
  unfold fireR; rw [h]; rfl

theorem lend_yes {p : Int} {n : Nat} {L : List (List Int)} {ys : List Int} {t : Int} {w w' : World} {b m : Nat} (h : fireOk p n L ys t = true) (hl : (firedL L ys t).length = m) (hh : w'.heap[b]? = some (.cells (cellsOf (firedL L ys t)) 3 (0, 0))) (hB : w.heap.size ≤ b) (hb : Below w.heap.size w w') :
    LEnd (fireOk p n L ys t) (fireR p n L ys t) w (.returned (.tuple #[.slice (some ⟨b, 0, none⟩) m m, .bool true])) w' := by
  have hr : fireR p n L ys t = firedL L ys t := by unfold fireR; rw [h]; rfl
  exact ⟨_, b, m, by rw [h], ⟨by rw [hr]; exact hl, .inr ⟨rfl, by rw [hr]; exact hh⟩⟩, hB, hb⟩

theorem fireL_len (x0 x1 x2 ys : List Int) : (fireL x0 x1 x2 ys).length = ys.length := by unfold fireL; rw [updL_len, updL_len, updL_len]

/-- By sets as by lists. -/
theorem fire_eq {p : Int} {n nm : Nat} {L : List (List Int)} {ys : List Int} {t : Int} (hnet : netOk p n L = true) (hg : goodB p ys = true) (hl : ys.length = nm) :
    fireB n L (fOf ys nm) t = fireOk p n L ys t ∧ (fireOk p n L ys t = true → listF (partF (maskL (inOf L t)) (maskL (outOf L t)) (maskL (resOf L t)) (fOf ys nm) 16) nm = firedL L ys t) := by
  obtain ⟨hp, hlp, hy⟩ := goodB_parts hg
  have hnm : (nm : Int) = p := by omega
  unfold fireB fireOk
  rw [hnet, hg]
  by_cases g2 : inB t 0 ((n : Int) - 1) = true
  rotate_left
  · have g2' : inB t 0 ((n : Int) - 1) = false := by simpa using g2
    rw [g2']; exact ⟨rfl, fun h => by simp at h⟩
  have ht : 0 ≤ t ∧ t ≤ (n : Int) - 1 := by simpa [inB] using g2
  have htri := tri_rise (triOkOf hnet (show t.toNat < n by omega))
  obtain ⟨h0, h1, h2⟩ := htri
  have e1 := can_sub (x0 := inOf L t) hp hnm hy h0
  rw [g2, e1]
  by_cases hc : canB (inOf L t) ys = true
  · have e2 := good_cap (x0 := inOf L t) (x1 := outOf L t) (x2 := resOf L t) hp hnm hl hy h0 h1 h2 hc
    refine ⟨?_, fun _ => list_fire (x0 := inOf L t) (x1 := outOf L t) (x2 := resOf L t) hp hnm hl h0 h1 h2⟩
    unfold firedL; rw [e2, hc]; rfl
  · have hc' : canB (inOf L t) ys = false := by simpa using hc
    rw [hc']; exact ⟨rfl, fun h => by simp at h⟩

theorem partF_small {s0 s1 s2 : Nat} {f : Nat → Int} (hf : ∀ i, 0 ≤ f i ∧ f i ≤ 50) (hen : ∀ i, s0.testBit i = true → 0 < f i) (k i : Nat) : 0 ≤ partF s0 s1 s2 f k i ∧ partF s0 s1 s2 f k i ≤ 255 := by
  have h1 := hf i
  have h2 := hen i
  unfold partF stepF
  split
  · cases h3 : s0.testBit i
    · simp only [Bool.false_eq_true, if_false]
      (repeat' split) <;> omega
    · have := h2 h3
      simp only [if_true]
      (repeat' split) <;> omega
  · omega

end Go.Proofs.Ytedbihlpggficab
