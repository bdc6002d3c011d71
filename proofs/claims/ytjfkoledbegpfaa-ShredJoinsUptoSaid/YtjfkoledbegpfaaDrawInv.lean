/- A region that draws its order, by what holds however far it is: an operation by itself, once. -/
import Derived.Test.YtjfkoledbegpfaaRows
import Derived.RegionTactic
namespace Go.Proofs.Ytjfkoledbegpfaa
set_option linter.unusedVariables false

section
variable {P : Program} {ops : Array Oper} {Q : Exit → Act → World → Prop}

/-- how many are still to do -/
def toDo (l : List Bool) : Nat := (l.filter fun b => !b).length
theorem toDo_set : ∀ (l : List Bool) (i : Nat), l.getD i true = false → toDo (l.set i true) + 1 = toDo l
  | [], i, h => by simp [List.getD] at h
  | b :: l, 0, h => by
    simp [List.getD] at h
    subst h
    simp [toDo]
  | b :: l, i + 1, h => by
    have := toDo_set l i (by simpa [List.getD] using h)
    unfold toDo at *
    cases b <;> simp only [List.set_cons_succ, List.filter_cons, Bool.not_false, Bool.not_true, if_true, Bool.false_eq_true, if_false, List.length_cons] <;> omega
theorem toDo_zero : ∀ (l : List Bool), toDo l = 0 → ∀ i, l.getD i true = true
  | [], _, i => by simp [List.getD]
  | b :: l, h, 0 => by
    unfold toDo at h
    cases b
    · simp at h
    · simp [List.getD]
  | b :: l, h, i + 1 => by
    have := toDo_zero l (by
      unfold toDo at *
      cases b
      · simp at h
      · simpa using h) i
    simpa [List.getD] using this
/-- each waits for earlier ones alone -/
def textual (ops : Array Oper) : Bool := (List.range ops.size).all fun i => match ops[i]? with
  | some o => o.after.all fun e => !Region.binds .any e || decide (e.on < i)
  | none => true
theorem ready_mem {md : Region.Mode} {listed : Array Bool} {i : Nat} : i ∈ Region.ready md ops listed ↔ i < ops.size ∧ listed.getD i true = false ∧ ∃ o, ops[i]? = some o ∧ ∀ e ∈ o.after.toList, Region.binds md e = true → listed.getD e.on false = true := by
  unfold Region.ready
  rw [List.mem_filter, List.mem_range]
  constructor
  · rintro ⟨h1, h2⟩
    rw [Bool.and_eq_true] at h2
    obtain ⟨o, ho⟩ : ∃ o, ops[i]? = some o := ⟨_, Array.getElem?_eq_getElem h1⟩
    refine ⟨h1, by simpa using h2.1, o, ho, fun e he hb => ?_⟩
    have h3 := h2.2
    rw [ho] at h3
    simp only [Option.map_some, Option.getD_some, Array.all_eq_true'] at h3
    have := h3 e (by simpa using he)
    rw [hb] at this
    simpa using this
  · rintro ⟨h1, h2, o, ho, h3⟩
    refine ⟨h1, ?_⟩
    rw [Bool.and_eq_true]
    refine ⟨by rw [h2]; rfl, ?_⟩
    rw [ho]
    simp only [Option.map_some, Option.getD_some, Array.all_eq_true']
    intro e he
    by_cases hb : Region.binds md e = true
    · rw [h3 e (by simpa using he) hb]; simp
    · simp [hb]
theorem all_listed {listed : Array Bool} (ht : textual ops = true) (hsz : listed.size = ops.size) (h : Region.ready .any ops listed = []) : ∀ i, listed.getD i true = true := by
  have key : ∀ n i, i ≤ n → i < ops.size → listed.getD i true = true := by
    intro n
    induction n with
    | zero =>
      intro i hi hs
      apply Classical.byContradiction
      intro hc
      have : i ∈ Region.ready .any ops listed := ready_mem.2 ⟨hs, by simpa using hc, ops[i], Array.getElem?_eq_getElem hs, fun e he hbe => by
        have h1 := List.all_eq_true.1 ht i (List.mem_range.2 hs)
        rw [Array.getElem?_eq_getElem hs] at h1
        simp only [Array.all_eq_true'] at h1
        have := h1 e (by simpa using he)
        rw [hbe] at this
        simp at this; omega⟩
      rw [h] at this; cases this
    | succ n ih =>
      intro i hi hs
      apply Classical.byContradiction
      intro hc
      have : i ∈ Region.ready .any ops listed := ready_mem.2 ⟨hs, by simpa using hc, ops[i], Array.getElem?_eq_getElem hs, fun e he hbe => by
        have h1 := List.all_eq_true.1 ht i (List.mem_range.2 hs)
        rw [Array.getElem?_eq_getElem hs] at h1
        simp only [Array.all_eq_true'] at h1
        have h2 := h1 e (by simpa using he)
        rw [hbe] at h2
        simp at h2
        have h3 := ih e.on (by omega) (by omega)
        rw [Array.getD, dif_pos (by omega)] at h3
        rw [Array.getD, dif_pos (by omega)]
        exact h3⟩
      rw [h] at this; cases this
  intro i
  by_cases hs : i < ops.size
  · exact key i i (Nat.le_refl _) hs
  · rw [Array.getD, dif_neg (by omega)]

/-- what is done, one more -/
def done1 (L : Nat → Bool) (i j : Nat) : Bool := if j = i then true else L j
/-- one operation, however far the others are -/
def StepOK (P : Program) (ops : Array Oper) (Q : Exit → Act → World → Prop) (J : (Nat → Bool) → Act → World → Prop) (i : Nat) (o : Oper) : Prop :=
  ∀ (L : Nat → Bool) (a : Act) (w : World), J L a w → L i = false → (∀ e ∈ o.after.toList, Region.binds .any e = true → L e.on = true) →
    ∀ K : Act → World → Prop, (∀ a' w', J (done1 L i) a' w' → K a' w') → if Region.wanted o (yielded ops a.tmps) = true then Oper.wp P o a w K Q else K (a.put o.dst undef) w
def StepsOK (P : Program) (ops : Array Oper) (Q : Exit → Act → World → Prop) (J : (Nat → Bool) → Act → World → Prop) : Nat → List Oper → Prop
  | _, [] => True
  | i, o :: r => StepOK P ops Q J i o ∧ StepsOK P ops Q J (i + 1) r
theorem steps_nil {J : (Nat → Bool) → Act → World → Prop} {i : Nat} : StepsOK P ops Q J i [] := trivial
theorem steps_cons {J : (Nat → Bool) → Act → World → Prop} {i : Nat} {o : Oper} {r : List Oper} (h : StepOK P ops Q J i o) (h2 : StepsOK P ops Q J (i + 1) r) : StepsOK P ops Q J i (o :: r) := ⟨h, h2⟩
theorem steps_at {J : (Nat → Bool) → Act → World → Prop} : ∀ (r : List Oper) (i : Nat), StepsOK P ops Q J i r → ∀ k o, r[k]? = some o → StepOK P ops Q J (i + k) o
  | [], _, _, k, o, h => by simp at h
  | x :: r, i, hs, 0, o, h => by simp at h; subst h; exact hs.1
  | x :: r, i, hs, k + 1, o, h => by
    have := steps_at r (i + 1) hs.2 k o (by simpa using h)
    rwa [show i + 1 + k = i + (k + 1) by omega] at this

theorem wpAny_inv {J : (Nat → Bool) → Act → World → Prop} (ht : textual ops = true) (hs : StepsOK P ops Q J 0 ops.toList) (hend : ∀ L a w, (∀ i, L i = true) → J L a w → Q .normal a w) :
    ∀ (fuel : Nat) (listed : Array Bool) (a : Act) (w : World), listed.size = ops.size → toDo listed.toList ≤ fuel → J (fun i => listed.getD i true) a w → wpAny P .any ops Q fuel listed a w
  | 0, listed, a, w, hsz, hf, hJ => by
    have hall : ∀ i, listed.getD i true = true := fun i => by
      have := toDo_zero listed.toList (by omega) i
      simpa [List.getD, Array.getD_eq_getD_getElem?] using this
    refine ⟨?_, hend _ a w hall hJ⟩
    apply List.eq_nil_iff_forall_not_mem.2
    intro i hi
    have := (ready_mem.1 hi).2.1
    rw [hall i] at this
    cases this
  | fuel + 1, listed, a, w, hsz, hf, hJ => by
    refine ⟨fun h0 => hend _ a w (all_listed ht hsz h0) hJ, fun i hi => ?_⟩
    obtain ⟨h1, h2, o, ho, h3⟩ := ready_mem.1 hi
    refine wpOp_step ho fun K hK => ?_
    have hok := steps_at ops.toList 0 hs i o (by simpa using ho)
    rw [Nat.zero_add] at hok
    refine hok _ a w hJ h2 (fun e he hb => ?_) K (fun a' w' hJ' => hK a' w' ?_)
    · have h4 := h3 e he hb
      show listed.getD e.on true = true
      by_cases hlt : e.on < listed.size
      · rw [Array.getD, dif_pos hlt] at h4 ⊢; exact h4
      · rw [Array.getD, dif_neg hlt]
    · refine wpAny_inv ht hs hend fuel _ a' w' (by simpa using hsz) ?_ ?_
      · have h5 := toDo_set listed.toList i (by simpa [List.getD, Array.getD_eq_getD_getElem?] using h2)
        have h6 : (listed.setIfInBounds i true).toList = listed.toList.set i true := by simp
        rw [h6]; omega
      · have : (fun j => (listed.setIfInBounds i true).getD j true) = done1 (fun i => listed.getD i true) i := by
          funext j
          unfold done1
          by_cases hj : j = i
          · subst hj
            rw [if_pos rfl]
            simp [Array.getD_eq_getD_getElem?, Array.getElem?_setIfInBounds]
            split <;> simp
          · rw [if_neg hj]
            simp [Array.getD_eq_getD_getElem?, Ne.symm hj]
        rw [this]; exact hJ'
theorem wp_region_inv {id : Nat} {a : Act} {w : World} (hm : P.follows .mixedOrders = true) (ht : textual ops = true) (J : Act → (Nat → Bool) → Act → World → Prop)
    (h0 : ∀ L : Nat → Bool, (∀ i, i < ops.size → L i = false) → (∀ i, ops.size ≤ i → L i = true) → J a L a { w with drawn := w.drawn + 1 }) (hs : StepsOK P ops Q (J a) 0 ops.toList) (hend : ∀ L a' w', (∀ i, L i = true) → J a L a' w' → Q .normal a' w') : (Code.region id ops true).wp P Q a w := by
  refine wp_region_any hm (wpAny_inv ht hs hend ops.size _ a _ (by simp) ?_ (h0 _ (fun i hi => ?_) (fun i hi => ?_)))
  · have : ∀ n, toDo (List.replicate n false) = n := fun n => by
      unfold toDo
      rw [List.filter_eq_self.2 (fun b hb => by rw [List.eq_of_mem_replicate hb]; rfl), List.length_replicate]
    rw [show (Array.replicate ops.size false).toList = List.replicate ops.size false by simp, this]
    exact Nat.le_refl _
  · simp [Array.getD_eq_getD_getElem?, hi]
  · simp [Array.getD_eq_getD_getElem?, Nat.not_lt.2 hi]
/-- slots that are overwritten -/
def puts (a : Act) : List (Nat × Value) → Act
  | [] => a
  | x :: r => puts (a.put (some x.1) x.2) r
end
end Go.Proofs.Ytjfkoledbegpfaa
