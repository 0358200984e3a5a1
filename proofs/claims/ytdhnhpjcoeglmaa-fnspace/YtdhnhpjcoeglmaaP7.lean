/- Contracts that the proof stands on, one behind the other. -/
import Derived.Test.YtdhnhpjcoeglmaaP6
import Derived.Deep.Onto
/- A region that draws its order, some of whose operations make memory: all orders at once, by what holds of those that are done. -/
namespace Go.Proofs.Ytdhnhpjcoeglmaa
open Go.RowKit
set_option maxRecDepth 10000

/-- Those of R for which p holds are done. -/
def lstD (l0 : Array Bool) : List Nat → (Nat → Bool) → Array Bool
  | [], _ => l0
  | i :: R, p => if p i then (lstD l0 R p).setIfInBounds i true else lstD l0 R p

/-- The frame in which those of R for which p holds have yielded x. -/
def frmD (D : Nat → Tmp) (a0 : Act) : List Nat → (Nat → Bool) → (Nat → Value) → Act
  | [], _, _ => a0
  | i :: R, p, x => if p i then (frmD D a0 R p x).put (some (D i)) (x i) else frmD D a0 R p x

def upB (p : Nat → Bool) (i : Nat) : Nat → Bool := fun j => if j = i then true else p j
def upV (x : Nat → Value) (i : Nat) (v : Value) : Nat → Value := fun j => if j = i then v else x j

theorem lstD_congr {l0 : Array Bool} {R : List Nat} {p q : Nat → Bool} (h : ∀ i ∈ R, p i = q i) : lstD l0 R p = lstD l0 R q := by
  induction R with
  | nil => rfl
  | cons i R ih =>
    unfold lstD
    rw [h i (by simp), ih fun j hj => h j (by simp [hj])]

theorem frmD_congr {D : Nat → Tmp} {a0 : Act} {R : List Nat} {p q : Nat → Bool} {x y : Nat → Value} (h : ∀ i ∈ R, p i = q i ∧ x i = y i) : frmD D a0 R p x = frmD D a0 R q y := by
  induction R with
  | nil => rfl
  | cons i R ih =>
    unfold frmD
    rw [(h i (by simp)).1, (h i (by simp)).2, ih fun j hj => h j (by simp [hj])]

theorem put_commD (a : Act) {d e : Tmp} (h : d ≠ e) (u v : Value) : (a.put (some d) u).put (some e) v = (a.put (some e) v).put (some d) u := by
  unfold Act.put
  simp only
  rw [Array.setIfInBounds_comm _ _ h]

theorem lstD_set {l0 : Array Bool} {R : List Nat} {p : Nat → Bool} {i : Nat} (hn : R.Nodup) (hi : i ∈ R) (hp : p i = false) : (lstD l0 R p).setIfInBounds i true = lstD l0 R (upB p i) := by
  induction R with
  | nil => simp at hi
  | cons j R ih =>
    obtain ⟨hj, hn'⟩ := List.nodup_cons.1 hn
    by_cases hij : i = j
    · subst hij
      have e : lstD l0 R (upB p i) = lstD l0 R p := lstD_congr fun k hk => by
        have hki : k ≠ i := fun e => hj (by rw [← e]; exact hk)
        unfold upB; rw [if_neg hki]
      unfold lstD
      rw [if_neg (by rw [hp]; simp), if_pos (by simp [upB]), e]
    · have hi' : i ∈ R := by rcases List.mem_cons.1 hi with h | h; exact absurd h hij; exact h
      have e : upB p i j = p j := by unfold upB; rw [if_neg (fun e => hij e.symm)]
      unfold lstD
      rw [e, ← ih hn' hi']
      split
      · rw [Array.setIfInBounds_comm _ _ (fun e => hij e.symm)]
      · rfl

theorem frmD_set {D : Nat → Tmp} {a0 : Act} {R : List Nat} {p : Nat → Bool} {x : Nat → Value} {i : Nat} {v : Value} (hn : R.Nodup) (hD : ∀ i ∈ R, ∀ j ∈ R, D i = D j → i = j) (hi : i ∈ R) (hp : p i = false) : (frmD D a0 R p x).put (some (D i)) v = frmD D a0 R (upB p i) (upV x i v) := by
  induction R with
  | nil => simp at hi
  | cons j R ih =>
    obtain ⟨hj, hn'⟩ := List.nodup_cons.1 hn
    by_cases hij : i = j
    · subst hij
      have e : frmD D a0 R (upB p i) (upV x i v) = frmD D a0 R p x := frmD_congr fun k hk => by
        have hki : k ≠ i := fun e => hj (by rw [← e]; exact hk)
        unfold upB upV; rw [if_neg hki, if_neg hki]; exact ⟨rfl, rfl⟩
      unfold frmD
      rw [if_neg (by rw [hp]; simp), if_pos (by simp [upB]), e]
      simp [upV]
    · have hi' : i ∈ R := by rcases List.mem_cons.1 hi with h | h; exact absurd h hij; exact h
      have e : upB p i j = p j := by unfold upB; rw [if_neg (fun e => hij e.symm)]
      have e' : upV x i v j = x j := by unfold upV; rw [if_neg (fun e => hij e.symm)]
      unfold frmD
      rw [e, e', ← ih hn' (fun a ha b hb => hD a (by simp [ha]) b (by simp [hb])) hi']
      split
      · rw [put_commD _ (fun e => hij (hD i (by simp [hi']) j (by simp) e.symm))]
      · rfl

theorem frmD_other {D : Nat → Tmp} {a0 : Act} {R : List Nat} {p : Nat → Bool} {x : Nat → Value} {t : Tmp} (h : ∀ i ∈ R, D i ≠ t) : (frmD D a0 R p x).eval (.tmp t) = a0.eval (.tmp t) := by
  induction R with
  | nil => rfl
  | cons i R ih =>
    unfold frmD
    split
    · rw [← ih fun j hj => h j (by simp [hj])]
      have := h i (by simp)
      show (Array.setIfInBounds _ _ _).getD t undef = _
      simp [Act.eval, Array.getD_eq_getD_getElem?, this]
    · exact ih fun j hj => h j (by simp [hj])

theorem frmD_size {D : Nat → Tmp} {a0 : Act} {R : List Nat} {p : Nat → Bool} {x : Nat → Value} : (frmD D a0 R p x).tmps.size = a0.tmps.size := by
  induction R with
  | nil => rfl
  | cons i R ih =>
    unfold frmD
    split
    · rw [← ih]; simp [Act.put]
    · exact ih

theorem frmD_at {D : Nat → Tmp} {a0 : Act} {R : List Nat} {p : Nat → Bool} {x : Nat → Value} {i : Nat} (hD : ∀ i ∈ R, ∀ j ∈ R, D i = D j → i = j) (hn : R.Nodup) (hi : i ∈ R) (hp : p i = true) (hs : D i < a0.tmps.size) : (frmD D a0 R p x).eval (.tmp (D i)) = x i := by
  induction R with
  | nil => simp at hi
  | cons j R ih =>
    obtain ⟨hj, hn'⟩ := List.nodup_cons.1 hn
    by_cases hij : i = j
    · subst hij
      unfold frmD
      rw [if_pos hp]
      show (Array.setIfInBounds _ _ _).getD _ undef = _
      have : D i < (frmD D a0 R p x).tmps.size := by rw [frmD_size]; exact hs
      simp [Array.getD_eq_getD_getElem?, this]
    · have hi' : i ∈ R := by rcases List.mem_cons.1 hi with h | h; exact absurd h hij; exact h
      have h' := ih (fun a ha b hb => hD a (by simp [ha]) b (by simp [hb])) hn' hi'
      unfold frmD
      split
      · rw [← h']
        have : D j ≠ D i := fun e => hij (hD i (by simp [hi']) j (by simp) e.symm)
        show (Array.setIfInBounds _ _ _).getD _ undef = _
        simp [Act.eval, Array.getD_eq_getD_getElem?, this]
      · exact h'

def subsD : List Nat → List (List Nat)
  | [] => [[]]
  | i :: R => (subsD R).map (i :: ·) ++ subsD R

theorem filter_subsD (R : List Nat) (p : Nat → Bool) : R.filter p ∈ subsD R := by
  induction R with
  | nil => simp [subsD]
  | cons i R ih =>
    unfold subsD
    rw [List.filter_cons]
    split
    · exact List.mem_append_left _ (List.mem_map.2 ⟨_, ih, rfl⟩)
    · exact List.mem_append_right _ ih

/-- What can come up next, whatever is done. -/
def chkD (md : Region.Mode) (ops : Array Oper) (l0 : Array Bool) (R : List Nat) (dep : Nat → List Nat) : Bool :=
  (subsD R).all fun T => !(T.all fun i => (dep i).all (T.contains ·)) || (R.all (T.contains ·)) ||
    (Region.ready md ops (lstD l0 R (T.contains ·)) == R.filter (fun i => !T.contains i && (dep i).all (T.contains ·)) &&
      !(R.filter (fun i => !T.contains i && (dep i).all (T.contains ·))).isEmpty)

theorem chkD_at {md : Region.Mode} {ops : Array Oper} {l0 : Array Bool} {R : List Nat} {dep : Nat → List Nat} (h : chkD md ops l0 R dep = true) (hdep : ∀ i ∈ R, ∀ j ∈ dep i, j ∈ R) (p : Nat → Bool) (hc : ∀ i ∈ R, p i = true → ∀ j ∈ dep i, p j = true) (hex : ∃ i ∈ R, p i = false) :
    Region.ready md ops (lstD l0 R p) = R.filter (fun i => !p i && (dep i).all p) ∧ R.filter (fun i => !p i && (dep i).all p) ≠ [] := by
  have hT := List.all_eq_true.1 h _ (filter_subsD R p)
  have hin : ∀ i ∈ R, (R.filter p).contains i = p i := fun i hi => by
    cases hp : p i
    · rw [List.contains_eq_mem, decide_eq_false_iff_not]; intro e; have := (List.mem_filter.1 e).2; rw [hp] at this; cases this
    · rw [List.contains_eq_mem, decide_eq_true_iff]; exact List.mem_filter.2 ⟨hi, hp⟩
  have hda : ∀ i ∈ R, (dep i).all ((R.filter p).contains ·) = (dep i).all p := fun i hi => by
    rw [Bool.eq_iff_iff, List.all_eq_true, List.all_eq_true]
    exact forall_congr' fun j => forall_congr' fun hj => by rw [hin j (hdep i hi j hj)]
  have hcl : ((R.filter p).all fun i => (dep i).all ((R.filter p).contains ·)) = true := by
    rw [List.all_eq_true]
    intro i hi
    obtain ⟨hi, hp⟩ := List.mem_filter.1 hi
    rw [hda i hi, List.all_eq_true]
    exact fun j hj => hc i hi hp j hj
  have hf : R.filter (fun i => !(R.filter p).contains i && (dep i).all ((R.filter p).contains ·)) = R.filter (fun i => !p i && (dep i).all p) := by
    apply List.filter_congr
    intro i hi
    rw [hin i hi, hda i hi]
  have hl : lstD l0 R ((R.filter p).contains ·) = lstD l0 R p := lstD_congr hin
  have hna : (R.all ((R.filter p).contains ·)) = false := by
    obtain ⟨i, hi, hp⟩ := hex
    rw [List.all_eq_false]
    exact ⟨i, hi, by rw [hin i hi, hp]; simp⟩
  rw [hcl, hf, hl, hna] at hT
  simp only [Bool.not_true, Bool.false_or, Bool.and_eq_true, beq_iff_eq, Bool.not_eq_true', List.isEmpty_eq_false_iff] at hT
  exact hT

section
variable {P : Program} {ops : Array Oper} {Q : Exit → Act → World → Prop} {md : Region.Mode} {S : World → Prop}

/-- All orders in which R's operations come up. I: what holds of those that are done, p, of what they yielded, x, and of the world. -/
theorem any_set (R : List Nat) (D : Nat → Tmp) (dep : Nat → List Nat) (I : (Nat → Bool) → (Nat → Value) → World → Prop) {fuel : Nat} {l0 : Array Bool} {a0 : Act} {w : World} (x0 : Nat → Value)
    (hn : R.Nodup) (hD : ∀ i ∈ R, ∀ j ∈ R, D i = D j → i = j) (hdep : ∀ i ∈ R, ∀ j ∈ dep i, j ∈ R) (hds : ∀ i ∈ R, ∃ o, ops[i]? = some o ∧ o.dst = some (D i) ∧ o.guard = none) (hck : chkD md ops l0 R dep = true) (hS : ∀ p x w, I p x w → S w)
    (step : ∀ i ∈ R, ∀ (p : Nat → Bool) (x : Nat → Value) (w : World) (o : Oper), ops[i]? = some o → p i = false → (∀ j ∈ dep i, p j = true) → I p x w → ∀ K : Act → World → Prop, (∀ v w', I (upB p i) (upV x i v) w' → K ((frmD D a0 R p x).put (some (D i)) v) w') → Oper.wp P o (frmD D a0 R p x) w K Q)
    (h0 : I (fun _ => false) x0 w) (fin : ∀ x w, I (fun i => R.contains i) x w → wpAnyH P md ops Q S fuel (lstD l0 R (fun _ => true)) (frmD D a0 R (fun _ => true) x) w) :
    wpAnyH P md ops Q S (fuel + R.length) l0 a0 w := by
  have main : ∀ (m : Nat) (p : Nat → Bool) (x : Nat → Value) (w : World), (R.filter (fun i => !p i)).length = m → (∀ i, p i = true → i ∈ R) → (∀ i ∈ R, p i = true → ∀ j ∈ dep i, p j = true) → I p x w → wpAnyH P md ops Q S (fuel + m) (lstD l0 R p) (frmD D a0 R p x) w := by
    intro m
    induction m with
    | zero =>
      intro p x w hm hpR hc hI
      have hall : ∀ i ∈ R, p i = true := fun i hi => by
        cases hp : p i
        · have : i ∈ R.filter (fun i => !p i) := List.mem_filter.2 ⟨hi, by rw [hp]; rfl⟩
          rw [List.length_eq_zero_iff.1 hm] at this
          simp at this
        · rfl
      have e1 : p = fun i => R.contains i := funext fun i => by
        by_cases hi : i ∈ R
        · rw [hall i hi]; simp [hi]
        · have : p i = false := by cases hp : p i; rfl; exact absurd (hpR i hp) hi
          rw [this]; simp [hi]
      rw [lstD_congr (q := fun _ => true) hall, frmD_congr (q := fun _ => true) (y := x) fun i hi => ⟨hall i hi, rfl⟩]
      exact fin x w (e1 ▸ hI)
    | succ m ih =>
      intro p x w hm hpR hc hI
      have hex : ∃ i ∈ R, p i = false := by
        cases hf : R.filter (fun i => !p i) with
        | nil => rw [hf] at hm; simp at hm
        | cons i rs =>
          have : i ∈ R.filter (fun i => !p i) := by rw [hf]; simp
          obtain ⟨h1, h2⟩ := List.mem_filter.1 this
          exact ⟨i, h1, by simpa using h2⟩
      obtain ⟨hr, hne⟩ := chkD_at hck hdep p hc hex
      refine wpAnyH_ready hr hne ?_
      have all : ∀ rs : List Nat, (∀ i ∈ rs, i ∈ R ∧ p i = false ∧ ∀ j ∈ dep i, p j = true) → AllReadyH P md ops Q S (fuel + m) (lstD l0 R p) (frmD D a0 R p x) w rs := by
        intro rs
        induction rs with
        | nil => intro _; exact AllReadyH.nil
        | cons i rs ihr =>
          intro hrs
          obtain ⟨hi, hp, hd⟩ := hrs i (by simp)
          obtain ⟨o, ho, hod, hog⟩ := hds i hi
          refine AllReadyH.cons ho (fun K hK => ?_) (ihr fun j hj => hrs j (by simp [hj]))
          rw [if_pos (by unfold Region.wanted; rw [hog])]
          refine step i hi p x w o ho hp hd hI K fun v w' hI' => ?_
          refine hK.out _ _ (hS _ _ _ hI') fun _ => ?_
          rw [lstD_set hn hi hp, frmD_set hn hD hi hp]
          refine ih (upB p i) (upV x i v) w' ?_ ?_ ?_ hI'
          · have e : R.filter (fun j => !upB p i j) = (R.filter (fun j => !p j)).filter (fun j => !(j == i)) := by
              rw [List.filter_filter]
              apply List.filter_congr
              intro j _
              unfold upB
              by_cases hj : j = i
              · simp [hj]
              · simp [hj]
            have hmem : i ∈ R.filter (fun j => !p j) := List.mem_filter.2 ⟨hi, by rw [hp]; rfl⟩
            have hnd : (R.filter (fun j => !p j)).Nodup := hn.filter _
            have e2 : (R.filter (fun j => !p j)).filter (fun j => !(j == i)) = (R.filter (fun j => !p j)).erase i := by
              rw [hnd.erase_eq_filter]; rfl
            rw [e, e2, List.length_erase_of_mem hmem, hm]; rfl
          · intro j hj
            unfold upB at hj
            by_cases hji : j = i
            · rw [hji]; exact hi
            · rw [if_neg hji] at hj; exact hpR j hj
          · intro j hj hpj q hq
            unfold upB at hpj ⊢
            by_cases hqi : q = i
            · rw [if_pos hqi]
            · rw [if_neg hqi]
              by_cases hji : j = i
              · subst hji; exact hd q hq
              · rw [if_neg hji] at hpj; exact hc j hj hpj q hq
      refine all _ fun i hi => ?_
      obtain ⟨h1, h2⟩ := List.mem_filter.1 hi
      rw [Bool.and_eq_true, Bool.not_eq_true', List.all_eq_true] at h2
      exact ⟨h1, h2.1, h2.2⟩
  have e0 : R.filter (fun i => !(fun _ => false : Nat → Bool) i) = R := by simp
  have h := main R.length (fun _ => false) x0 w (by rw [e0]) (fun i hi => by cases hi) (fun i _ hi => by cases hi) h0
  have el : ∀ R : List Nat, lstD l0 R (fun _ => false) = l0 := fun R => by induction R with | nil => rfl | cons i R ih => unfold lstD; simp [ih]
  have ef : ∀ R : List Nat, frmD D a0 R (fun _ => false) x0 = a0 := fun R => by induction R with | nil => rfl | cons i R ih => unfold frmD; simp [ih]
  rw [el, ef] at h
  exact h

/-- The same, where each operation's value is told by itself and stays when memory is made. -/
theorem any_make (R : List Nat) (D : Nat → Tmp) (dep : Nat → List Nat) (B : World) (G : Nat → Value → World → Prop) {fuel : Nat} {l0 : Array Bool} {a0 : Act} {w : World}
    (hmono : ∀ i v w w', G i v w → Below w.heap.size w w' → G i v w')
    (hn : R.Nodup) (hD : ∀ i ∈ R, ∀ j ∈ R, D i = D j → i = j) (hsz : (R.all fun i => decide (D i < a0.tmps.size)) = true) (hdep : ∀ i ∈ R, ∀ j ∈ dep i, j ∈ R) (hds : (R.all fun i => match ops[i]? with | some o => o.dst == some (D i) && o.guard.isNone | none => false) = true) (hck : chkD md ops l0 R dep = true) (hS : ∀ w, S w)
    (step : ∀ i ∈ R, ∀ (a : Act) (x : Nat → Value) (w : World) (o : Oper), ops[i]? = some o → (∀ t, (∀ j ∈ R, D j ≠ t) → a.eval (.tmp t) = a0.eval (.tmp t)) → (∀ j ∈ dep i, a.eval (.tmp (D j)) = x j ∧ G j (x j) w) → Below B.heap.size B w → ∀ K : Act → World → Prop, (∀ v w', G i v w' → Below w.heap.size w w' → K (a.put (some (D i)) v) w') → Oper.wp P o a w K Q)
    (h0 : Below B.heap.size B w) (fin : ∀ x w, Below B.heap.size B w → (∀ i ∈ R, G i (x i) w) → wpAnyH P md ops Q S fuel (lstD l0 R (fun _ => true)) (frmD D a0 R (fun _ => true) x) w) :
    wpAnyH P md ops Q S (fuel + R.length) l0 a0 w := by
  refine any_set R D dep (fun p x w => Below B.heap.size B w ∧ ∀ i ∈ R, p i = true → G i (x i) w) (fun _ => undef) hn hD hdep (fun i hi => ?_) hck (fun _ _ w _ => hS w) ?_ ⟨h0, fun i _ hi => by cases hi⟩ ?_
  · have h := List.all_eq_true.1 hds i hi
    cases ho : ops[i]? with
    | none => rw [ho] at h; simp at h
    | some o =>
      rw [ho] at h
      simp only [Bool.and_eq_true, beq_iff_eq, Option.isNone_iff_eq_none] at h
      exact ⟨o, rfl, h.1, h.2⟩
  · rintro i hi p x w o ho hp hd ⟨hb, hG⟩ K hK
    refine step i hi (frmD D a0 R p x) x w o ho (fun t ht => frmD_other ht) (fun j hj => ⟨?_, hG j (hdep i hi j hj) (hd j hj)⟩) hb K fun v w' hv hb' => hK v w' ⟨hb.trans (hb'.mono hb.size), fun j hj hpj => ?_⟩
    · exact frmD_at hD hn (hdep i hi j hj) (hd j hj) (of_decide_eq_true (List.all_eq_true.1 hsz j (hdep i hi j hj)))
    · unfold upV
      by_cases hji : j = i
      · rw [if_pos hji, hji]; exact hv
      · rw [if_neg hji]
        unfold upB at hpj
        rw [if_neg hji] at hpj
        exact hmono _ _ _ _ (hG j hj hpj) hb'
  · rintro x w ⟨hb, hG⟩
    exact fin x w hb fun i hi => hG i hi (by simp [hi])

/-- The same, where the world goes on by L and J holds of it all the way, whatever is done. -/
theorem any_go (R : List Nat) (D : Nat → Tmp) (dep : Nat → List Nat) (L : World → World → Prop) (J : (Nat → Bool) → World → Prop) (G : Nat → Value → World → Prop) {fuel : Nat} {l0 : Array Bool} {a0 : Act} {w : World}
    (hmono : ∀ i v w w', G i v w → L w w' → G i v w')
    (hn : R.Nodup) (hD : ∀ i ∈ R, ∀ j ∈ R, D i = D j → i = j) (hsz : (R.all fun i => decide (D i < a0.tmps.size)) = true) (hdep : ∀ i ∈ R, ∀ j ∈ dep i, j ∈ R) (hds : (R.all fun i => match ops[i]? with | some o => o.dst == some (D i) && o.guard.isNone | none => false) = true) (hck : chkD md ops l0 R dep = true) (hS : ∀ p w, J p w → S w)
    (step : ∀ i ∈ R, ∀ (p : Nat → Bool) (a : Act) (x : Nat → Value) (w : World) (o : Oper), ops[i]? = some o → p i = false → (∀ t, (∀ j ∈ R, D j ≠ t) → a.eval (.tmp t) = a0.eval (.tmp t)) → (∀ j ∈ dep i, p j = true ∧ a.eval (.tmp (D j)) = x j ∧ G j (x j) w) → J p w → ∀ K : Act → World → Prop, (∀ v w', G i v w' → L w w' → J (upB p i) w' → K (a.put (some (D i)) v) w') → Oper.wp P o a w K Q)
    (h0 : J (fun _ => false) w) (fin : ∀ x w, J (fun i => R.contains i) w → (∀ i ∈ R, G i (x i) w) → wpAnyH P md ops Q S fuel (lstD l0 R (fun _ => true)) (frmD D a0 R (fun _ => true) x) w) :
    wpAnyH P md ops Q S (fuel + R.length) l0 a0 w := by
  refine any_set R D dep (fun p x w => J p w ∧ ∀ i ∈ R, p i = true → G i (x i) w) (fun _ => undef) hn hD hdep (fun i hi => ?_) hck (fun p _ w h => hS p w h.1) ?_ ⟨h0, fun i _ hi => by cases hi⟩ ?_
  · have h := List.all_eq_true.1 hds i hi
    cases ho : ops[i]? with
    | none => rw [ho] at h; simp at h
    | some o =>
      rw [ho] at h
      simp only [Bool.and_eq_true, beq_iff_eq, Option.isNone_iff_eq_none] at h
      exact ⟨o, rfl, h.1, h.2⟩
  · rintro i hi p x w o ho hp hd ⟨hb, hG⟩ K hK
    refine step i hi p (frmD D a0 R p x) x w o ho hp (fun t ht => frmD_other ht) (fun j hj => ⟨hd j hj, ?_, hG j (hdep i hi j hj) (hd j hj)⟩) hb K fun v w' hv hb' hJ => hK v w' ⟨hJ, fun j hj hpj => ?_⟩
    · exact frmD_at hD hn (hdep i hi j hj) (hd j hj) (of_decide_eq_true (List.all_eq_true.1 hsz j (hdep i hi j hj)))
    · unfold upV
      by_cases hji : j = i
      · rw [if_pos hji, hji]; exact hv
      · rw [if_neg hji]
        unfold upB at hpj
        rw [if_neg hji] at hpj
        exact hmono _ _ _ _ (hG j hj hpj) hb'
  · rintro x w ⟨hb, hG⟩
    exact fin x w hb fun i hi => hG i hi (by simp [hi])

theorem evalD {a : Act} {t : Tmp} {v : Value} (h : a.eval (.tmp t) = v) : a.tmps[t]?.getD undef = v := by
  rw [← h]; simp [Act.eval]

theorem oper_val {o : Oper} {a : Act} {w w' : World} {K : Act → World → Prop} {d : Option Tmp} {v : Value} (hd : o.dst = d) (hr : (execOp a.eval o).run P w = .ok (.value v) w') (h : K (a.put d v) w') : Oper.wp P o a w K Q := by
  subst hd
  unfold Oper.wp
  rw [hr]
  exact h

theorem oper_call {o : Oper} {a : Act} {w : World} {K : Act → World → Prop} {d : Option Tmp} (hd : o.dst = d) (f : FuncId) (fn : Func) (xs : Array Operand) (ts : Array TypeId) (hop : o.op = Op.call { callee := Callee.value (Operand.func f), args := xs, argTypes := ts })
    (hfn : P.funcs[f]? = some fn) (hnm : (fn.name == "runtime.NumGoroutine") = false) (hbd : fn.body.isNone = false) (args : Array Value) (hargs : xs.map a.eval = args) (R : Ending → World → Prop) (hc : Calls P f args w R)
    (h : ∀ e w', R e w' → ∃ v, e = .returned v ∧ K (a.put d v) w') : Oper.wp P o a w K Q := by
  subst hd
  unfold Oper.wp
  rw [run_callw f fn xs ts hop hfn hnm hbd, hargs, Oper.upon_enter]
  refine hc.mono fun e w'' hh => ?_
  obtain ⟨v, rfl, hk⟩ := h e w'' hh
  exact hk
end
end Go.Proofs.Ytdhnhpjcoeglmaa


/- A slice of the call's own that is appended to and cut at its front; the state of the search in memory. -/
namespace Go.Proofs.Ytdhnhpjcoeglmaa
open Go.RowKit
open Go.ChangeMaps (setBlock heap_setBlock_same heap_setBlock_other)
set_option maxRecDepth 10000

/-- v is a slice of n elements, the cells xs, in a block of the call's own, whose room behind is free. -/
def Tail (w : World) (B : Nat) (size : Nat) (v : Value) (n : Nat) (xs : List Value) : Prop :=
  xs.length = n * size ∧ ((v = .slice none 0 0 ∧ n = 0) ∨ ∃ g off cap, v = .slice (some ⟨g, off, none⟩) n cap ∧ B ≤ g ∧ g < w.heap.size ∧ n ≤ cap ∧ cap ≤ maxLen ∧
    (∀ j u, xs[j]? = some u → w.cell? ⟨g, off + j, none⟩ = some u) ∧ ∀ j, j < cap * size → (w.cell? ⟨g, off + j, none⟩).isSome = true ∧ w.frozen? ⟨g, off + j, none⟩ = false)

theorem Tail.of_own {w : World} {B : Nat} {e : TypeId} {size : Nat} {v : Value} {n : Nat} {xs : List Value} (h : w.ownsRow B e size v n xs) : Tail w B size v n xs := by
  refine ⟨h.1, ?_⟩
  have hl := h.1
  rcases h.2 with h0 | ⟨g, cap, cur, rfl, hb, hg, hn, hc, hs, ht⟩
  · exact .inl h0
  · refine .inr ⟨g, 0, cap, rfl, hb, (Array.getElem?_eq_some_iff.mp hg).1, hn, hc, fun j u hu => ?_, fun j hj => ⟨?_, frozen_of_row w g _ cur e hg⟩⟩
    · have hj : j < n * size := by rw [← hl]; exact (List.getElem?_eq_some_iff.mp hu).1
      rw [Nat.zero_add, h.cellAt j hj]; exact hu
    · rw [Nat.zero_add, cell_of_row w g j cur e _ hg, Array.getElem?_eq_getElem (by omega)]; rfl

theorem Tail.nil (w : World) (B size : Nat) : Tail w B size (.slice none 0 0) 0 [] := ⟨by simp, .inl ⟨rfl, rfl⟩⟩

theorem Tail.form {w : World} {B size : Nat} {v : Value} {n : Nat} {xs : List Value} (h : Tail w B size v n xs) : ∃ a c, v = .slice a n c := by
  rcases h.2 with ⟨rfl, rfl⟩ | ⟨g, off, cap, rfl, _⟩
  · exact ⟨_, _, rfl⟩
  · exact ⟨_, _, rfl⟩

theorem Tail.lt {w : World} {B size : Nat} {v : Value} {n : Nat} {xs : List Value} (h : Tail w B size v n xs) {g : Nat} (hg : v.ownBlock = some g) : B ≤ g ∧ g < w.heap.size := by
  rcases h.2 with ⟨rfl, _⟩ | ⟨g', off, cap, rfl, h1, h2, _⟩
  · simp [Value.ownBlock] at hg
  · simp [Value.ownBlock] at hg; subst hg; exact ⟨h1, h2⟩

/-- It stays while its own block stays. -/
theorem Tail.kept {w w' : World} {B size : Nat} {v : Value} {n : Nat} {xs : List Value} (h : Tail w B size v n xs) (hs : w.heap.size ≤ w'.heap.size) (hb : ∀ g, v.ownBlock = some g → w'.heap[g]? = w.heap[g]?) : Tail w' B size v n xs := by
  refine ⟨h.1, ?_⟩
  rcases h.2 with h0 | ⟨g, off, cap, rfl, h1, h2, h3, h4, h5, h6⟩
  · exact .inl h0
  · have e := hb g rfl
    exact .inr ⟨g, off, cap, rfl, h1, by omega, h3, h4, fun j u hu => (World.cell?_of_block (a := ⟨g, off + j, none⟩) e).trans (h5 j u hu), fun j hj => by
      rw [World.cell?_of_block (a := ⟨g, off + j, none⟩) e, World.frozen?_of_block (a := ⟨g, off + j, none⟩) e]; exact h6 j hj⟩

theorem Tail.grow {w w' : World} {B size : Nat} {v : Value} {n : Nat} {xs : List Value} (h : Tail w B size v n xs) (hb : Below w.heap.size w w') : Tail w' B size v n xs :=
  h.kept hb.size fun g hg => hb.block g (h.lt hg).2

theorem ownsRow_kept {w w' : World} {B : Nat} {e : TypeId} {size : Nat} {v : Value} {n : Nat} {xs : List Value} (h : w.ownsRow B e size v n xs) (hb : ∀ g, v.ownBlock = some g → w'.heap[g]? = w.heap[g]?) : w'.ownsRow B e size v n xs := by
  refine ⟨h.1, ?_⟩
  rcases h.2 with h0 | ⟨g, cap, cur, rfl, h1, h2, h3⟩
  · exact .inl h0
  · exact .inr ⟨g, cap, cur, rfl, h1, (hb g rfl).trans h2, h3⟩

theorem grown_setCells (b : Nat) : ∀ (vs : List Value) (o : Nat) (w : World), w.grownBy (w.setCells b o vs) (some b)
  | [], _, w => ⟨rfl, rfl, rfl, Nat.le_refl _, fun _ _ _ => rfl⟩
  | v :: r, o, w => by
    have ih := grown_setCells b r (o + 1) (w.setCell ⟨b, o, none⟩ v)
    rw [World.setCells]
    refine ⟨ih.os, ih.tape, ih.output, ?_, fun k hk hne => ?_⟩
    · have := ih.size; simpa [World.setCell] using this
    · have hk' : k < (w.setCell ⟨b, o, none⟩ v).heap.size := by simpa [World.setCell] using hk
      exact (ih.block k hk' hne).trans (Below.heap_setCell _ _ _ _ (fun e => hne (by rw [e])))

/-- One element more. -/
theorem run_append_tail {P : Program} {w : World} {B : Nat} {size : Nat} {v : Value} {n : Nat} {xs : List Value} (h : Tail w B size v n xs)
    (t ty e : TypeId) (i : TypeInfo) (z : Value) (bytes : Nat) (ht : P.underlying t = some (.slice e)) (hi : P.info? e = some i) (hz : i.zero = some z) (hsize : i.size = size) (hby : i.bytes = bytes) (hzs : z.cells.size = size) (hsz : 0 < size)
    (ad : Addr) (c : Nat) (news : List Value) (hl : news.length = 1 * size) (hnews : ∀ j u, news[j]? = some u → w.cell? (ad.add j) = some u) (h1 : ∀ u ∈ news, u.oneCell' = true)
    (h63 : n + 1 ≤ maxLen) (hbytes : (n + 1) * bytes ≤ 140737488355328) (hB : B ≤ w.heap.size) :
    ∃ v' w', (Builtin.append_ #[t, t] ty #[v, .slice (some ad) 1 c]).run P w = .ok v' w' ∧ Tail w' B size v' (n + 1) (xs ++ news) ∧ w.grownBy w' v.ownBlock ∧ (∀ g, v'.ownBlock = some g → v.ownBlock = some g ∨ w.heap.size ≤ g) := by
  have hxl := h.1
  rcases h.2 with ⟨rfl, rfl⟩ | ⟨g, off, cap, rfl, hb, hlt, hn, hc, hx, hsp⟩
  · obtain rfl : xs = [] := List.eq_nil_of_length_eq_zero (by simpa using hxl)
    obtain ⟨v', w', hr, h2, h3, _, h5⟩ := run_append_own_at (P := P) w B t ty e i z size bytes ht hi hz hsize hby hzs hsz (.slice none 0 0) 0 [] (World.ownsRow_nil w _ e size) ad 1 c news hl hnews h1 h63 hbytes hB
    refine ⟨v', w', hr, Tail.of_own h2, h3, fun g hg => ?_⟩
    rcases h5 with h5 | h5
    · rw [h5] at hg; simp [Value.ownBlock] at hg
    · rw [h5] at hg; right; have := Option.some.inj hg; omega
  · by_cases hr : n + 1 ≤ cap
    · have hrc : (n + 1) * size ≤ cap * size := Nat.mul_le_mul_right _ hr
      rw [Nat.add_mul, Nat.one_mul] at hrc
      have hnl : news.length = size := by rw [hl, Nat.one_mul]
      have hsome : ∀ j, j < news.length → (w.cell? ⟨g, off + n * i.size + j, none⟩).isSome = true := fun j hj => by
        have := (hsp (n * size + j) (by omega)).1
        rw [hsize, Nat.add_assoc]; exact this
      have hrun := run_append_room_cells (P := P) w t ty e i ht hi g off n cap ad 1 c news (by rw [hsize]; exact hl) hnews h1 hr hsome (fun j hj => by
        have := (hsp (n * size + j) (by omega)).2
        rw [hsize, Nat.add_assoc]; exact this)
      rw [hsize] at hrun hsome
      have hg := grown_setCells g news (off + n * size) w
      refine ⟨_, _, hrun, ⟨by rw [List.length_append, hxl, hl]; rw [Nat.add_mul], .inr ⟨g, off, cap, rfl, hb, Nat.lt_of_lt_of_le hlt hg.size, hr, hc, fun j u hu => ?_, fun j hj => ?_⟩⟩, hg, fun g' hg' => .inl hg'⟩
      · by_cases hj : j < xs.length
        · rw [List.getElem?_append_left hj] at hu
          rw [World.cell?_setCells_out g news _ w _ (fun _ _ => Or.inl (by show off + j < off + n * size; omega))]
          exact hx j u hu
        · rw [List.getElem?_append_right (by omega)] at hu
          have hj' : j - xs.length < news.length := (List.getElem?_eq_some_iff.mp hu).1
          have := World.cell?_setCells_in g news (off + n * size) w hsome (j - xs.length) hj'
          rw [show off + n * size + (j - xs.length) = off + j by omega] at this
          rw [this, ← hu, List.getElem?_eq_getElem hj']
      · exact ⟨World.isSome_setCells g news _ w _ (hsp j hj).1, by rw [World.frozen?_setCells]; exact (hsp j hj).2⟩
    · obtain ⟨v', w', hrun, r1, r2⟩ := run_append_arg_grows (P := P) w t ty e i z size bytes ht hi hz hsize hby hzs hsz ⟨g, off, none⟩ n cap xs hxl (fun j u hu => by rw [Addr.add_mid]; exact hx j u hu) ad 1 c news hl hnews (by omega) h63 hbytes
      refine ⟨v', w', hrun, ?_, ⟨r2.os, r2.tape, r2.output, r2.size, fun k hk hne => r2.block k hk (by simp)⟩, fun g' hg' => .inr ?_⟩
      · have := Tail.of_own r1
        refine ⟨this.1, this.2.imp id ?_⟩
        rintro ⟨g1, o1, c1, e1, e2, e3⟩
        exact ⟨g1, o1, c1, e1, Nat.le_trans hB e2, e3⟩
      · exact (Tail.of_own r1).lt hg' |>.1

/-- What is left when the first one is cut off. -/
def popV (size : Nat) : Value → Value
  | .slice (some ⟨g, off, none⟩) n cap => .slice (some ⟨g, if cap = 1 then off else off + size, none⟩) (n - 1) (cap - 1)
  | v => v

theorem Tail.pop {w : World} {B size : Nat} {v : Value} {n : Nat} {xs : List Value} (h : Tail w B size v (n + 1) xs) : Tail w B size (popV size v) n (xs.drop size) := by
  have hl := h.1
  rcases h.2 with ⟨_, h0⟩ | ⟨g, off, cap, rfl, hb, hlt, hn, hc, hx, hsp⟩
  · omega
  · refine ⟨by rw [List.length_drop, hl, Nat.add_mul]; omega, .inr ⟨g, if cap = 1 then off else off + size, cap - 1, ?_, hb, hlt, by omega, by omega, fun j u hu => ?_, fun j hj => ?_⟩⟩
    · simp [popV]
    · rw [List.getElem?_drop] at hu
      have h2 := hx _ u hu
      by_cases h1 : cap = 1
      · have hn0 : n = 0 := by omega
        have : (xs[size + j]?) = none := List.getElem?_eq_none (by rw [hl, hn0]; omega)
        rw [this] at hu; cases hu
      · rw [if_neg h1, Nat.add_assoc]; exact h2
    · by_cases h1 : cap = 1
      · subst h1; simp at hj
      · rw [if_neg h1, Nat.add_assoc]
        refine hsp _ ?_
        have : cap * size = (cap - 1) * size + size := by
          conv => lhs; rw [show cap = (cap - 1) + 1 by omega]
          rw [Nat.add_mul, Nat.one_mul]
        omega

theorem popV_block (size : Nat) {w : World} {B : Nat} {v : Value} {n : Nat} {xs : List Value} (h : Tail w B size v n xs) : (popV size v).ownBlock = v.ownBlock := by
  rcases h.2 with ⟨rfl, _⟩ | ⟨g, off, cap, rfl, _⟩
  · rfl
  · simp [popV, Value.ownBlock]

/-- The cells of some marks. -/
def toksL (l : Nat) (q : List (List Int)) : List Value := q.flatMap fun m => (packOf m l).toList

theorem toksL_len (l : Nat) (q : List (List Int)) : (toksL l q).length = q.length * 16 := by
  induction q with
  | nil => rfl
  | cons m r ih => unfold toksL at *; rw [List.flatMap_cons, List.length_append, ih]; simp [packOf_size]; omega
theorem toksL_snoc (l : Nat) (q : List (List Int)) (m : List Int) : toksL l (q ++ [m]) = toksL l q ++ (packOf m l).toList := by simp [toksL]
theorem toksL_cons (l : Nat) (q : List (List Int)) (m : List Int) : toksL l (m :: q) = (packOf m l).toList ++ toksL l q := by simp [toksL]
theorem toksL_drop (l : Nat) (q : List (List Int)) (m : List Int) : (toksL l (m :: q)).drop 16 = toksL l q := by
  rw [toksL_cons, List.drop_append_of_le_length (by simp [packOf_size])]
  simp [packOf_size]

/-- The cells of some arcs. -/
def arcsL (ar : List (Nat × Nat × Nat)) : List Value := ar.flatMap fun a => [.int .i64 (a.1 : Int), .int .i64 (a.2.1 : Int), .int .i64 (a.2.2 : Int)]

theorem arcsL_snoc (ar : List (Nat × Nat × Nat)) (a : Nat × Nat × Nat) : arcsL (ar ++ [a]) = arcsL ar ++ [.int .i64 (a.1 : Int), .int .i64 (a.2.1 : Int), .int .i64 (a.2.2 : Int)] := by simp [arcsL]

/-- The state of the search in memory: block b. -/
structure Sm (W0 w : World) (b BS mb : Nat) (p : Int) (n l Bg : Nat) (L : List (List Int)) (wv av : Value) (ms qs : List (List Int)) (ar : List (Nat × Nat × Nat)) : Prop where
  bel : Below W0.heap.size W0 w
  st : w.heap[b]? = some (.cells #[.int .i64 p, .slice (some ⟨BS, 0, none⟩) n n, .int .i64 (Bg : Int), .map (some mb), wv, av] 166 (0, 0))
  steps : PartS w BS (3 * n) (3 * n) L
  map : MapIs w mb l ms
  que : Tail w W0.heap.size 16 wv qs.length (toksL l qs)
  arcs : w.ownsRow W0.heap.size 66 3 av ar.length (arcsL ar)
  hb : W0.heap.size ≤ b
  hm : W0.heap.size ≤ mb
  hbs : True
  ne1 : mb ≠ b
  ne2 : BS ≠ b
  ne3 : BS ≠ mb
  sepw : ∀ g, wv.ownBlock = some g → g ≠ b ∧ g ≠ mb ∧ g ≠ BS ∧ av.ownBlock ≠ some g
  sepa : ∀ g, av.ownBlock = some g → g ≠ b ∧ g ≠ mb ∧ g ≠ BS

section
variable {W0 w w' : World} {b BS mb : Nat} {p : Int} {n l Bg : Nat} {L : List (List Int)} {wv av : Value} {ms qs : List (List Int)} {ar : List (Nat × Nat × Nat)}

theorem PartS.lt {w : World} {B n k : Nat} {L : List (List Int)} (h : PartS w B n k L) : B < w.heap.size := by
  obtain ⟨C, h1, _⟩ := h
  exact (Array.getElem?_eq_some_iff.mp h1).1
theorem PartS.kept {w w' : World} {B n k : Nat} {L : List (List Int)} (h : PartS w B n k L) (hb : w'.heap[B]? = w.heap[B]?) : PartS w' B n k L := by
  obtain ⟨C, h1, h2⟩ := h
  exact ⟨C, hb.trans h1, h2⟩

theorem Sm.blt (h : Sm W0 w b BS mb p n l Bg L wv av ms qs ar) : b < w.heap.size := (Array.getElem?_eq_some_iff.mp h.st).1

theorem own_lt {w : World} {B : Nat} {e : TypeId} {size : Nat} {v : Value} {n : Nat} {xs : List Value} (h : w.ownsRow B e size v n xs) {g : Nat} (hg : v.ownBlock = some g) : B ≤ g ∧ g < w.heap.size := h.lt g hg

/-- Nothing that was there has turned. -/
theorem Sm.go (h : Sm W0 w b BS mb p n l Bg L wv av ms qs ar) (hb : Below w.heap.size w w') : Sm W0 w' b BS mb p n l Bg L wv av ms qs ar :=
  ⟨h.bel.trans (hb.mono h.bel.size), (hb.block b h.blt).trans h.st, h.steps.grow hb, h.map.kept (hb.block mb h.map.lt), h.que.grow hb, ownsRow_kept h.arcs fun g hg => hb.block g (own_lt h.arcs hg).2,
    h.hb, h.hm, h.hbs, h.ne1, h.ne2, h.ne3, h.sepw, h.sepa⟩

theorem Sm.cells (h : Sm W0 w b BS mb p n l Bg L wv av ms qs ar) :
    w.cell? ⟨b, 0, none⟩ = some (.int .i64 p) ∧ w.cell? ⟨b, 1, none⟩ = some (.slice (some ⟨BS, 0, none⟩) n n) ∧ w.cell? ⟨b, 2, none⟩ = some (.int .i64 (Bg : Int)) ∧ w.cell? ⟨b, 3, none⟩ = some (.map (some mb)) ∧ w.cell? ⟨b, 4, none⟩ = some wv ∧ w.cell? ⟨b, 5, none⟩ = some av := by
  refine ⟨?_, ?_, ?_, ?_, ?_, ?_⟩ <;> rw [cell_of_row w b _ _ _ _ h.st] <;> rfl

theorem Sm.free (h : Sm W0 w b BS mb p n l Bg L wv av ms qs ar) (o : Nat) : w.frozen? ⟨b, o, none⟩ = false := frozen_of_row w b o _ _ h.st

/-- A new mark has got its number. -/
theorem Sm.put (h : Sm W0 w b BS mb p n l Bg L wv av ms qs ar) (m : List Int) : Sm W0 (setBlock w mb (.map (entsOf l (ms ++ [m])) (ms.length + 1))) b BS mb p n l Bg L wv av (ms ++ [m]) qs ar := by
  have hm := h.map
  unfold MapIs at hm
  have oth : ∀ g, g ≠ mb → (setBlock w mb (.map (entsOf l (ms ++ [m])) (ms.length + 1))).heap[g]? = w.heap[g]? := fun g hg => heap_setBlock_other hm _ hg
  have hs : (setBlock w mb (.map (entsOf l (ms ++ [m])) (ms.length + 1))).heap.size = w.heap.size := by simp [setBlock]
  refine ⟨h.bel.trans ⟨rfl, rfl, rfl, by rw [hs]; exact Nat.le_refl _, fun k hk => oth k (by have := h.hm; have := h.bel.size; omega)⟩, (oth b (Ne.symm h.ne1)).trans h.st, h.steps.kept (oth BS h.ne3), h.map.put m, h.que.kept (by rw [hs]; exact Nat.le_refl _) fun g hg => oth g (h.sepw g hg).2.1,
    ownsRow_kept h.arcs fun g hg => oth g (h.sepa g hg).2.1, h.hb, h.hm, h.hbs, h.ne1, h.ne2, h.ne3, h.sepw, h.sepa⟩

theorem below_setCellB {W0 w : World} {a : Addr} {v : Value} (h : Below W0.heap.size W0 w) (ha : W0.heap.size ≤ a.block) : Below W0.heap.size W0 (w.setCell a v) := h.setCell ha v

theorem size_setCell (w : World) (a : Addr) (v : Value) : (w.setCell a v).heap.size = w.heap.size := by simp [World.setCell]

/-- A field of the state is written. -/
theorem Sm.waiting (h : Sm W0 w b BS mb p n l Bg L wv av ms qs ar) (hg : w.grownBy w' wv.ownBlock) {v : Value} {qs' : List (List Int)} (ht : Tail w' W0.heap.size 16 v qs'.length (toksL l qs')) (hl : ∀ g, v.ownBlock = some g → wv.ownBlock = some g ∨ w.heap.size ≤ g) :
    Sm W0 (w'.setCell ⟨b, 4, none⟩ v) b BS mb p n l Bg L v av ms qs' ar := by
  have far : ∀ g, g < w.heap.size → g ≠ b → wv.ownBlock ≠ some g → (w'.setCell ⟨b, 4, none⟩ v).heap[g]? = w.heap[g]? := fun g h1 h2 h3 =>
    (Below.heap_setCell _ _ _ _ h2).trans (hg.block g h1 (fun e => h3 e.symm))
  have hbb : w'.heap[b]? = w.heap[b]? := hg.block b h.blt (fun e => (h.sepw b e.symm).1 rfl)
  refine ⟨?_, ?_, h.steps.kept (far BS h.steps.lt h.ne2 fun e => (h.sepw BS e).2.2.1 rfl), h.map.kept (far mb h.map.lt h.ne1 fun e => (h.sepw mb e).2.1 rfl), ?_, ?_, h.hb, h.hm, h.hbs, h.ne1, h.ne2, h.ne3, ?_, h.sepa⟩
  · refine Below.setCell ?_ h.hb _
    refine h.bel.grown hg h.bel.size fun k hk => (h.que.lt hk).1
  · rw [heap_setCell_same w' b 4 _ _ v (hbb.trans h.st)]; rfl
  · refine ht.kept (by rw [size_setCell]; exact Nat.le_refl _) fun g hgv => Below.heap_setCell _ _ _ _ ?_
    rcases hl g hgv with e | e
    · exact (h.sepw g e).1
    · have := h.blt; show g ≠ b; omega
  · exact ownsRow_kept h.arcs fun g hga => far g (own_lt h.arcs hga).2 (h.sepa g hga).1 fun e => (h.sepw g e).2.2.2 hga
  · intro g hgv
    rcases hl g hgv with e | e
    · exact h.sepw g e
    · have h1 := h.blt
      have h2 := h.map.lt
      have h3 := h.steps.lt
      exact ⟨by omega, by omega, by omega, fun e2 => by have := (own_lt h.arcs e2).2; omega⟩

theorem Sm.arc (h : Sm W0 w b BS mb p n l Bg L wv av ms qs ar) (hg : w.grownBy w' av.ownBlock) {v : Value} {ar' : List (Nat × Nat × Nat)} (ht : w'.ownsRow W0.heap.size 66 3 v ar'.length (arcsL ar')) (hl : ∀ g, v.ownBlock = some g → av.ownBlock = some g ∨ w.heap.size ≤ g) :
    Sm W0 (w'.setCell ⟨b, 5, none⟩ v) b BS mb p n l Bg L wv v ms qs ar' := by
  have far : ∀ g, g < w.heap.size → g ≠ b → av.ownBlock ≠ some g → (w'.setCell ⟨b, 5, none⟩ v).heap[g]? = w.heap[g]? := fun g h1 h2 h3 =>
    (Below.heap_setCell _ _ _ _ h2).trans (hg.block g h1 (fun e => h3 e.symm))
  have hbb : w'.heap[b]? = w.heap[b]? := hg.block b h.blt (fun e => (h.sepa b e.symm).1 rfl)
  refine ⟨?_, ?_, h.steps.kept (far BS h.steps.lt h.ne2 fun e => (h.sepa BS e).2.2 rfl), h.map.kept (far mb h.map.lt h.ne1 fun e => (h.sepa mb e).2.1 rfl), ?_, ?_, h.hb, h.hm, h.hbs, h.ne1, h.ne2, h.ne3, ?_, ?_⟩
  · refine Below.setCell ?_ h.hb _
    refine h.bel.grown hg h.bel.size fun k hk => (own_lt h.arcs hk).1
  · rw [heap_setCell_same w' b 5 _ _ v (hbb.trans h.st)]; rfl
  · refine h.que.kept (by rw [size_setCell]; exact hg.size) fun g hgw => far g (h.que.lt hgw).2 (h.sepw g hgw).1 (h.sepw g hgw).2.2.2
  · refine ownsRow_kept ht fun g hgv => Below.heap_setCell _ _ _ _ ?_
    rcases hl g hgv with e | e
    · exact (h.sepa g e).1
    · have := h.blt; show g ≠ b; omega
  · intro g hgw
    obtain ⟨a1, a2, a3, a4⟩ := h.sepw g hgw
    refine ⟨a1, a2, a3, fun e => ?_⟩
    rcases hl g e with e' | e'
    · exact a4 e'
    · have := (h.que.lt hgw).2; omega
  · intro g hgv
    rcases hl g hgv with e | e
    · exact h.sepa g e
    · have h1 := h.blt
      have h2 := h.map.lt
      have h3 := h.steps.lt
      exact ⟨by omega, by omega, by omega⟩
end
end Go.Proofs.Ytdhnhpjcoeglmaa
