/- DrawInv, DrawJ. -/
import Derived.Test.YtnjnalehfhfefaaRows
import Derived.RegionTactic
import Derived.Laws.AppendOwnNone
import Derived.Deep.AppendLies
import Derived.Deep.DeepAppendRoom
import Derived.Test.YtnjnalehfhfefaaK3
/- A region that draws its order, by what holds however far it is: an operation by itself, once. -/
namespace Go.Proofs.Ytnjnalehfhfefaa
set_option linter.unusedVariables false

section
variable {P : Program} {ops : Array Oper} {Q : Exit → Act → World → Prop}

/-- how many are still to do -/
def toDo (l : List Bool) : Nat := (l.filter fun b => !b).length
theorem toDo_set : ∀ (l : List Bool) (i : Nat), l.getD i true = false → toDo (l.set i true) + 1 = toDo l
  | [], i, h => by simp [List.getD] at h
  | b :: l, 0, h => by
    simp [List.getD] at h
    subst h
    simp [toDo]
  | b :: l, i + 1, h => by
    have := toDo_set l i (by simpa [List.getD] using h)
    unfold toDo at *
    cases b <;> simp only [List.set_cons_succ, List.filter_cons, Bool.not_false, Bool.not_true, if_true, Bool.false_eq_true, if_false, List.length_cons] <;> omega
theorem toDo_zero : ∀ (l : List Bool), toDo l = 0 → ∀ i, l.getD i true = true
  | [], _, i => by simp [List.getD]
  | b :: l, h, 0 => by
    unfold toDo at h
    cases b
    · simp at h
    · simp [List.getD]
  | b :: l, h, i + 1 => by
    have := toDo_zero l (by
      unfold toDo at *
      cases b
      · simp at h
      · simpa using h) i
    simpa [List.getD] using this
/-- each waits for earlier ones alone -/
def textual (ops : Array Oper) : Bool := (List.range ops.size).all fun i => match ops[i]? with
  | some o => o.after.all fun e => !Region.binds .any e || decide (e.on < i)
  | none => true
theorem ready_mem {md : Region.Mode} {listed : Array Bool} {i : Nat} : i ∈ Region.ready md ops listed ↔ i < ops.size ∧ listed.getD i true = false ∧ ∃ o, ops[i]? = some o ∧ ∀ e ∈ o.after.toList, Region.binds md e = true → listed.getD e.on false = true := by
  unfold Region.ready
  rw [List.mem_filter, List.mem_range]
  constructor
  · rintro ⟨h1, h2⟩
    rw [Bool.and_eq_true] at h2
    obtain ⟨o, ho⟩ : ∃ o, ops[i]? = some o := ⟨_, Array.getElem?_eq_getElem h1⟩
    refine ⟨h1, by simpa using h2.1, o, ho, fun e he hb => ?_⟩
    have h3 := h2.2
    rw [ho] at h3
    simp only [Option.map_some, Option.getD_some, Array.all_eq_true'] at h3
    have := h3 e (by simpa using he)
    rw [hb] at this
    simpa using this
  · rintro ⟨h1, h2, o, ho, h3⟩
    refine ⟨h1, ?_⟩
    rw [Bool.and_eq_true]
    refine ⟨by rw [h2]; rfl, ?_⟩
    rw [ho]
    simp only [Option.map_some, Option.getD_some, Array.all_eq_true']
    intro e he
    by_cases hb : Region.binds md e = true
    · rw [h3 e (by simpa using he) hb]; simp
    · simp [hb]
theorem all_listed {listed : Array Bool} (ht : textual ops = true) (hsz : listed.size = ops.size) (h : Region.ready .any ops listed = []) : ∀ i, listed.getD i true = true := by
  have key : ∀ n i, i ≤ n → i < ops.size → listed.getD i true = true := by
    intro n
    induction n with
    | zero =>
      intro i hi hs
      apply Classical.byContradiction
      intro hc
      have : i ∈ Region.ready .any ops listed := ready_mem.2 ⟨hs, by simpa using hc, ops[i], Array.getElem?_eq_getElem hs, fun e he hbe => by
        have h1 := List.all_eq_true.1 ht i (List.mem_range.2 hs)
        rw [Array.getElem?_eq_getElem hs] at h1
        simp only [Array.all_eq_true'] at h1
        have := h1 e (by simpa using he)
        rw [hbe] at this
        simp at this; omega⟩
      rw [h] at this; cases this
    | succ n ih =>
      intro i hi hs
      apply Classical.byContradiction
      intro hc
      have : i ∈ Region.ready .any ops listed := ready_mem.2 ⟨hs, by simpa using hc, ops[i], Array.getElem?_eq_getElem hs, fun e he hbe => by
        have h1 := List.all_eq_true.1 ht i (List.mem_range.2 hs)
        rw [Array.getElem?_eq_getElem hs] at h1
        simp only [Array.all_eq_true'] at h1
        have h2 := h1 e (by simpa using he)
        rw [hbe] at h2
        simp at h2
        have h3 := ih e.on (by omega) (by omega)
        rw [Array.getD, dif_pos (by omega)] at h3
        rw [Array.getD, dif_pos (by omega)]
        exact h3⟩
      rw [h] at this; cases this
  intro i
  by_cases hs : i < ops.size
  · exact key i i (Nat.le_refl _) hs
  · rw [Array.getD, dif_neg (by omega)]

/-- what is done, one more -/
def done1 (L : Nat → Bool) (i j : Nat) : Bool := if j = i then true else L j
/-- one operation, however far the others are -/
def StepOK (P : Program) (ops : Array Oper) (Q : Exit → Act → World → Prop) (J : (Nat → Bool) → Act → World → Prop) (i : Nat) (o : Oper) : Prop :=
  ∀ (L : Nat → Bool) (a : Act) (w : World), J L a w → L i = false → (∀ e ∈ o.after.toList, Region.binds .any e = true → L e.on = true) →
    ∀ K : Act → World → Prop, (∀ a' w', J (done1 L i) a' w' → K a' w') → if Region.wanted o (yielded ops a.tmps) = true then Oper.wp P o a w K Q else K (a.put o.dst undef) w
def StepsOK (P : Program) (ops : Array Oper) (Q : Exit → Act → World → Prop) (J : (Nat → Bool) → Act → World → Prop) : Nat → List Oper → Prop
  | _, [] => True
  | i, o :: r => StepOK P ops Q J i o ∧ StepsOK P ops Q J (i + 1) r
theorem steps_nil {J : (Nat → Bool) → Act → World → Prop} {i : Nat} : StepsOK P ops Q J i [] := trivial
theorem steps_cons {J : (Nat → Bool) → Act → World → Prop} {i : Nat} {o : Oper} {r : List Oper} (h : StepOK P ops Q J i o) (h2 : StepsOK P ops Q J (i + 1) r) : StepsOK P ops Q J i (o :: r) := ⟨h, h2⟩
theorem steps_at {J : (Nat → Bool) → Act → World → Prop} : ∀ (r : List Oper) (i : Nat), StepsOK P ops Q J i r → ∀ k o, r[k]? = some o → StepOK P ops Q J (i + k) o
  | [], _, _, k, o, h => by simp at h
  | x :: r, i, hs, 0, o, h => by simp at h; subst h; exact hs.1
  | x :: r, i, hs, k + 1, o, h => by
    have := steps_at r (i + 1) hs.2 k o (by simpa using h)
    rwa [show i + 1 + k = i + (k + 1) by omega] at this

theorem wpAny_inv {J : (Nat → Bool) → Act → World → Prop} (ht : textual ops = true) (hs : StepsOK P ops Q J 0 ops.toList) (hend : ∀ L a w, (∀ i, L i = true) → J L a w → Q .normal a w) :
    ∀ (fuel : Nat) (listed : Array Bool) (a : Act) (w : World), listed.size = ops.size → toDo listed.toList ≤ fuel → J (fun i => listed.getD i true) a w → wpAny P .any ops Q fuel listed a w
  | 0, listed, a, w, hsz, hf, hJ => by
    have hall : ∀ i, listed.getD i true = true := fun i => by
      have := toDo_zero listed.toList (by omega) i
      simpa [List.getD, Array.getD_eq_getD_getElem?] using this
    refine ⟨?_, hend _ a w hall hJ⟩
    apply List.eq_nil_iff_forall_not_mem.2
    intro i hi
    have := (ready_mem.1 hi).2.1
    rw [hall i] at this
    cases this
  | fuel + 1, listed, a, w, hsz, hf, hJ => by
    refine ⟨fun h0 => hend _ a w (all_listed ht hsz h0) hJ, fun i hi => ?_⟩
    obtain ⟨h1, h2, o, ho, h3⟩ := ready_mem.1 hi
    refine wpOp_step ho fun K hK => ?_
    have hok := steps_at ops.toList 0 hs i o (by simpa using ho)
    rw [Nat.zero_add] at hok
    refine hok _ a w hJ h2 (fun e he hb => ?_) K (fun a' w' hJ' => hK a' w' ?_)
    · have h4 := h3 e he hb
      show listed.getD e.on true = true
      by_cases hlt : e.on < listed.size
      · rw [Array.getD, dif_pos hlt] at h4 ⊢; exact h4
      · rw [Array.getD, dif_neg hlt]
    · refine wpAny_inv ht hs hend fuel _ a' w' (by simpa using hsz) ?_ ?_
      · have h5 := toDo_set listed.toList i (by simpa [List.getD, Array.getD_eq_getD_getElem?] using h2)
        have h6 : (listed.setIfInBounds i true).toList = listed.toList.set i true := by simp
        rw [h6]; omega
      · have : (fun j => (listed.setIfInBounds i true).getD j true) = done1 (fun i => listed.getD i true) i := by
          funext j
          unfold done1
          by_cases hj : j = i
          · subst hj
            rw [if_pos rfl]
            simp [Array.getD_eq_getD_getElem?, Array.getElem?_setIfInBounds]
            split <;> simp
          · rw [if_neg hj]
            simp [Array.getD_eq_getD_getElem?, Ne.symm hj]
        rw [this]; exact hJ'
theorem wp_region_inv {id : Nat} {a : Act} {w : World} (hm : P.follows .mixedOrders = true) (ht : textual ops = true) (J : Act → (Nat → Bool) → Act → World → Prop)
    (h0 : ∀ L : Nat → Bool, (∀ i, i < ops.size → L i = false) → (∀ i, ops.size ≤ i → L i = true) → J a L a { w with drawn := w.drawn + 1 }) (hs : StepsOK P ops Q (J a) 0 ops.toList) (hend : ∀ L a' w', (∀ i, L i = true) → J a L a' w' → Q .normal a' w') : (Code.region id ops true).wp P Q a w := by
  refine wp_region_any hm (wpAny_inv ht hs hend ops.size _ a _ (by simp) ?_ (h0 _ (fun i hi => ?_) (fun i hi => ?_)))
  · have : ∀ n, toDo (List.replicate n false) = n := fun n => by
      unfold toDo
      rw [List.filter_eq_self.2 (fun b hb => by rw [List.eq_of_mem_replicate hb]; rfl), List.length_replicate]
    rw [show (Array.replicate ops.size false).toList = List.replicate ops.size false by simp, this]
    exact Nat.le_refl _
  · simp [Array.getD_eq_getD_getElem?, hi]
  · simp [Array.getD_eq_getD_getElem?, Nat.not_lt.2 hi]
/-- slots that are overwritten -/
def puts (a : Act) : List (Nat × Value) → Act
  | [] => a
  | x :: r => puts (a.put (some x.1) x.2) r
end
end Go.Proofs.Ytnjnalehfhfefaa
/- A region that draws its order, by items: what each operation has made so far, in blocks of its own, until another operation takes it. -/
namespace Go.Proofs.Ytnjnalehfhfefaa
open Go.RowKit
set_option linter.unusedVariables false

/-- slots that have been written since -/
def upd (a : Act) (f : Nat → Option Value) : Act := { a with tmps := a.tmps.mapIdx fun i x => (f i).getD x }
def fset (f : Nat → Option Value) (d : Nat) (v : Value) : Nat → Option Value := fun i => if i = d then some v else f i
def fdst (f : Nat → Option Value) (o : Option Nat) (v : Value) : Nat → Option Value := match o with
  | none => f
  | some d => fset f d v
theorem upd_none (a : Act) : upd a (fun _ => none) = a := by
  unfold upd
  cases a
  simp only [Option.getD_none, Act.mk.injEq, and_true]
  apply Array.ext
  · simp
  · intro i h1 h2; simp
theorem upd_put (a : Act) (f : Nat → Option Value) (o : Option Nat) (v : Value) : (upd a f).put o v = upd a (fdst f o v) := by
  cases o with
  | none => rfl
  | some d =>
    unfold upd Act.put fdst fset
    simp only [Act.mk.injEq, and_true]
    apply Array.ext
    · simp
    · intro i h1 h2
      simp only [Array.getElem_mapIdx]
      simp only [Array.size_setIfInBounds, Array.size_mapIdx] at h1
      rw [Array.getElem_setIfInBounds (by simpa using h1)]
      by_cases h : d = i
      · subst h; simp
      · rw [if_neg h, if_neg (fun e => h e.symm), Array.getElem_mapIdx]
theorem upd_eval {a : Act} {f : Nat → Option Value} {t : Nat} {v : Value} (ht : t < a.tmps.size) (hf : f t = some v) : (upd a f).eval (.tmp t) = v := by
  unfold upd Act.eval
  simp [Array.getD_eq_getD_getElem?, Array.getElem?_eq_getElem ht, hf]
theorem upd_eval0 {a : Act} {f : Nat → Option Value} {t : Nat} (hf : f t = none) : (upd a f).eval (.tmp t) = a.eval (.tmp t) := by
  unfold upd Act.eval
  by_cases ht : t < a.tmps.size
  · simp [Array.getD_eq_getD_getElem?, Array.getElem?_eq_getElem ht, hf]
  · simp [Array.getD_eq_getD_getElem?, Array.getElem?_eq_none (Nat.le_of_not_lt ht)]
theorem upd_const (a : Act) (f : Nat → Option Value) (v : Value) : (upd a f).eval (.const v) = v := rfl
theorem upd_fset (a : Act) (f : Nat → Option Value) (d : Nat) (v : Value) : upd a (fset f d v) = (upd a f).put (some d) v := (upd_put a f (some d) v).symm
/-- the slots one by one -/
theorem upd_puts (a : Act) : ∀ (ds : List Nat) (f g : Nat → Option Value), (∀ s, s ∉ ds → f s = g s) → (∀ s ∈ ds, ∃ v, f s = some v) → upd a f = puts (upd a g) (ds.map fun s => (s, (f s).getD undef))
  | [], f, g, h, _ => by
    have : f = g := funext fun s => h s (by simp)
    rw [this]; rfl
  | d :: ds, f, g, h, hv => by
    obtain ⟨v, hd⟩ := hv d (by simp)
    have := upd_puts a ds f (fset g d v) (fun s hs => by
      unfold fset
      by_cases e : s = d
      · rw [if_pos e, e, hd]
      · rw [if_neg e]; exact h s (by simp [e, hs])) (fun s hs => hv s (by simp [hs]))
    rw [this, upd_fset]
    simp [puts, hd]

/-- all blocks but some as they were -/
structure Kept (M : Nat → Prop) (w w' : World) : Prop where
  os : w'.os = w.os
  tape : w'.tape = w.tape
  output : w'.output = w.output
  size : w.heap.size ≤ w'.heap.size
  block : ∀ k, k < w.heap.size → ¬ M k → w'.heap[k]? = w.heap[k]?
theorem Kept.refl (M : Nat → Prop) (w : World) : Kept M w w := ⟨rfl, rfl, rfl, Nat.le_refl _, fun _ _ _ => rfl⟩
theorem Kept.drew_ {M : Nat → Prop} (w : World) : Kept M w w.drew := ⟨rfl, rfl, rfl, Nat.le_refl _, fun _ _ _ => rfl⟩
theorem Kept.below {M : Nat → Prop} {w w' : World} {B : Nat} (h : Kept M w w') (hM : ∀ k, M k → B ≤ k) (hB : B ≤ w.heap.size) : Below B w w' :=
  ⟨h.os, h.tape, h.output, h.size, fun k hk => h.block k (by omega) (fun hm => by have := hM k hm; omega)⟩
theorem Kept.cell {M : Nat → Prop} {w w' : World} {b o : Nat} (h : Kept M w w') (hb : b < w.heap.size) (hm : ¬ M b) : w'.cell? ⟨b, o, none⟩ = w.cell? ⟨b, o, none⟩ :=
  World.cell?_of_block (a := ⟨b, o, none⟩) (h.block b hb hm)

/-- what holds as long as these blocks are as they are -/
def Obj (w : World) (S : Nat → Prop) (P : World → Prop) : Prop := ∀ w' : World, (∀ k, S k → w'.heap[k]? = w.heap[k]?) → w.heap.size ≤ w'.heap.size → P w'
theorem Obj.now {w : World} {S : Nat → Prop} {P : World → Prop} (h : Obj w S P) : P w := h w (fun _ _ => rfl) (Nat.le_refl _)
theorem Obj.next {w w' : World} {S : Nat → Prop} {P : World → Prop} (h : Obj w S P) (hs : ∀ k, S k → w'.heap[k]? = w.heap[k]?) (hz : w.heap.size ≤ w'.heap.size) : Obj w' S P :=
  fun W h1 h2 => h W (fun k hk => (h1 k hk).trans (hs k hk)) (Nat.le_trans hz h2)
theorem Obj.pure {w : World} {S : Nat → Prop} {P : Prop} (h : P) : Obj w S (fun _ => P) := fun _ _ _ => h

/-- what an operation makes: its slot, who takes it, what it is -/
structure Item where
  slot : Option Nat
  cons : Option Nat
  P : Value → Prop
  R : Value → (Nat → Prop) → World → Prop
  pre : List Nat := []
def noItem : Item := ⟨none, none, fun _ => True, fun _ _ _ => True, []⟩
/-- what is so whatever becomes of memory / what lies in blocks of its own -/
abbrev itC (s : Nat) (v : Value) : Item := ⟨some s, none, fun u => u = v, fun _ _ _ => True, []⟩
abbrev itR (s : Nat) (c : Option Nat) (R : Value → (Nat → Prop) → World → Prop) : Item := ⟨some s, c, fun _ => True, R, []⟩
abbrev tab (tb : List Item) (i : Nat) : Item := tb.getD i noItem
/-- the state of a region whose order is drawn -/
structure St (tb : List Item) (M : Nat → Prop) (W0 : World) (ds : List Nat) (a0 : Act) (f : Nat → Option Value) (own : Nat → Nat → Prop) (val : Nat → Value) (L : Nat → Bool) (w : World) : Prop where
  kept : Kept M W0 w
  off : ∀ s, s ∉ ds → f s = none
  slot : ∀ i s, i < tb.length → L i = true → (tab tb i).slot = some s → f s = some (val i)
  clo : ∀ i j, i < tb.length → L i = true → j ∈ (tab tb i).pre → L j = true
  ini : ∀ i, i < tb.length → i ∈ (tab tb i).pre → L i = true
  pur : ∀ i, i < tb.length → L i = true → (tab tb i).P (val i)
  rng : ∀ i k, i < tb.length → L i = true → (∀ e, (tab tb i).cons = some e → L e = false) → own i k → k < w.heap.size ∧ (W0.heap.size ≤ k ∨ M k)
  obj : ∀ i, i < tb.length → L i = true → (∀ e, (tab tb i).cons = some e → L e = false) → Obj w (own i) ((tab tb i).R (val i) (own i))
  dis : ∀ i j k, i < tb.length → j < tb.length → L i = true → L j = true → (∀ e, (tab tb i).cons = some e → L e = false) → (∀ e, (tab tb j).cons = some e → L e = false) → own i k → own j k → i = j
def StJ (tb : List Item) (M : Nat → Prop) (W0 : World) (ds : List Nat) (a0 : Act) (L : Nat → Bool) (a : Act) (w : World) : Prop :=
  ∃ f own val, a = upd a0 f ∧ St tb M W0 ds a0 f own val L w
section
variable {tb : List Item} {M : Nat → Prop} {W0 : World} {ds : List Nat} {a0 : Act} {f : Nat → Option Value} {own : Nat → Nat → Prop} {val : Nat → Value} {L : Nat → Bool} {w : World}
theorem St.ev (h : St tb M W0 ds a0 f own val L w) (i s : Nat) (hi : i < tb.length) (hL : L i = true) (hs : (tab tb i).slot = some s) (ht : s < a0.tmps.size) : (upd a0 f).eval (.tmp s) = val i := upd_eval ht (h.slot i s hi hL hs)
theorem St.ev0 (h : St tb M W0 ds a0 f own val L w) (s : Nat) (hs : s ∉ ds) : (upd a0 f).eval (.tmp s) = a0.eval (.tmp s) := upd_eval0 (h.off s hs)
theorem St.free (h : St tb M W0 ds a0 f own val L w) (i : Nat) (hi : i < tb.length) (hL : L i = true) (hc : (tab tb i).cons = none) : Obj w (own i) ((tab tb i).R (val i) (own i)) := h.obj i hi hL (fun e he => by rw [hc] at he; cases he)
theorem St.mine (h : St tb M W0 ds a0 f own val L w) (i e : Nat) (hi : i < tb.length) (hL : L i = true) (hc : (tab tb i).cons = some e) (he : L e = false) : Obj w (own i) ((tab tb i).R (val i) (own i)) := h.obj i hi hL (fun e' he' => by rw [hc] at he'; rw [← Option.some.inj he']; exact he)
theorem St.start (hni : (List.range tb.length).all (fun i => !(tab tb i).pre.contains i) = true) (hW : W0.heap.size ≤ w.heap.size) (hk : Kept M W0 w) (hL : ∀ i, i < tb.length → L i = false) : St tb M W0 ds a0 (fun _ => none) (fun _ _ => False) (fun _ => undef) L w :=
  ⟨hk, fun _ _ => rfl, fun i s hi h => (by rw [hL i hi] at h; cases h), fun i j hi h => (by rw [hL i hi] at h; cases h), fun i hi h => (by have h9 := List.all_eq_true.1 hni i (List.mem_range.2 hi); rw [show (tab tb i).pre.contains i = true by simpa using h] at h9; cases h9), fun i hi h => (by rw [hL i hi] at h; cases h), fun i k hi h => (by rw [hL i hi] at h; cases h), fun i hi h => (by rw [hL i hi] at h; cases h), fun i j k hi _ h => (by rw [hL i hi] at h; cases h)⟩
/-- one thing is there already: the last of the list -/
theorem St.start1 (N : Nat) (hN : tb.length = N + 1) (hk : Kept M W0 w) (hL : ∀ i, i < N → L i = false) (v0 : Value) (S0 : Nat → Prop) (hLN : L N = true) (hs : (tab tb N).slot = none) (hpre : (tab tb N).pre = [N]) (hni : (List.range N).all (fun i => !(tab tb i).pre.contains i) = true) (hp : (tab tb N).P v0) (hr : ∀ k, S0 k → k < w.heap.size ∧ M k) (ho : Obj w S0 ((tab tb N).R v0 S0)) :
    St tb M W0 ds a0 (fun _ => none) (fun i k => i = N ∧ S0 k) (fun _ => v0) L w := by
  have only : ∀ i, i < tb.length → L i = true → i = N := fun i hi h => by
    apply Classical.byContradiction
    intro hne
    rw [hL i (by omega)] at h
    cases h
  refine ⟨hk, fun _ _ => rfl, fun i s hi h e => ?_, fun i j hi h e => ?_, fun i hi h => ?_, fun i hi h => ?_, fun i k hi h _ hk => ?_, fun i hi h _ => ?_, fun i j k hi hj h1 h2 _ _ _ _ => ?_⟩
  · rw [only i hi h, hs] at e; cases e
  · rw [only i hi h, hpre] at e; rw [List.mem_singleton.1 e]; exact hLN
  · by_cases hiN : i = N
    · rw [hiN]; exact hLN
    · have h9 := List.all_eq_true.1 hni i (List.mem_range.2 (by omega)); rw [show (tab tb i).pre.contains i = true by simpa using h] at h9; cases h9
  · rw [only i hi h]; exact hp
  · exact ⟨(hr k hk.2).1, Or.inr (hr k hk.2).2⟩
  · have := only i hi h
    subst this
    have e : (fun k => i = i ∧ S0 k) = S0 := by funext k; simp
    show Obj w (fun k => i = i ∧ S0 k) ((tab tb i).R v0 (fun k => i = i ∧ S0 k))
    rw [e]; exact ho
  · rw [only i hi h1, only j hj h2]
/-- one operation more -/
theorem St.step (h : St tb M W0 ds a0 f own val L w) {i : Nat} {o : Oper} (hi : i < tb.length) (hL : L i = false) (hd : ∀ d, o.dst = some d → d ∈ ds) (hu : (List.range tb.length).all (fun j => decide (j = i) || (tab tb j).pre.contains i || (match o.dst with | some d => decide ((tab tb j).slot ≠ some d) | none => true)) = true) (hpre : ∀ j ∈ (tab tb i).pre, L j = true) (v : Value) (hv : ∀ s, (tab tb i).slot = some s → o.dst = some s ∨ f s = some v)
    (S : Nat → Prop) (w' : World) (hk : Kept M W0 w') (hz : w.heap.size ≤ w'.heap.size)
    (hm : ∀ k, k < w.heap.size → w'.heap[k]? = w.heap[k]? ∨ (M k ∧ ∀ j, j < tb.length → L j = true → j ≠ i → (∀ e, (tab tb j).cons = some e → L e = false ∧ e ≠ i) → ¬ own j k) ∨ ∃ c, c < tb.length ∧ L c = true ∧ (tab tb c).cons = some i ∧ own c k)
    (hS : ∀ k, S k → k < w'.heap.size ∧ (w.heap.size ≤ k ∨ ∃ c, c < tb.length ∧ L c = true ∧ (tab tb c).cons = some i ∧ own c k))
    (hp : (tab tb i).P v) (ho : Obj w' S ((tab tb i).R v S)) {u : Value} (huv : o.dst = none ∨ u = v) : StJ tb M W0 ds a0 (done1 L i) ((upd a0 f).put o.dst u) w' := by
  refine ⟨fdst f o.dst u, fun j => if j = i then S else own j, fun j => if j = i then v else val j, upd_put _ _ _ _, ?_⟩
  have alive : ∀ j, j ≠ i → (∀ e, (tab tb j).cons = some e → done1 L i e = false) → (∀ e, (tab tb j).cons = some e → L e = false) ∧ (tab tb j).cons ≠ some i := fun j hj ha => by
    constructor
    · intro e he
      have := ha e he
      unfold done1 at this
      by_cases hei : e = i
      · rw [if_pos hei] at this; cases this
      · rwa [if_neg hei] at this
    · intro e
      have := ha i e
      simp [done1] at this
  have isc : ∀ j, j < tb.length → j ≠ i → L j = true → (∀ e, (tab tb j).cons = some e → done1 L i e = false) → ∀ k c, c < tb.length → L c = true → (tab tb c).cons = some i → own c k → ¬ own j k := fun j hjn hj hLj ha k c hcn hLc hc hok hoj => by
    obtain ⟨h1, h2⟩ := alive j hj ha
    have := h.dis j c k hjn hcn hLj hLc h1 (fun e he => by rw [hc] at he; rw [← Option.some.inj he]; exact hL) hoj hok
    subst this
    exact h2 hc
  have ne_L : ∀ j, j ≠ i → done1 L i j = true → L j = true := fun j hj h1 => by unfold done1 at h1; rwa [if_neg hj] at h1
  refine ⟨hk, fun s hs => ?_, fun j s hj hLj hsj => ?_, fun j1 j2 hj hLj hjp => ?_, fun j hj hjp => ?_, fun j hj hLj => ?_, fun j k hj hLj ha hok => ?_, fun j hj hLj ha => ?_, fun j1 j2 k hj1 hj2 hL1 hL2 ha1 ha2 ho1 ho2 => ?_⟩
  · cases hdo : o.dst with
    | none => exact h.off s hs
    | some d =>
      show fset f d u s = none
      unfold fset
      rw [if_neg (fun e => hs (by rw [e]; exact hd d hdo))]
      exact h.off s hs
  · by_cases hji : j = i
    · subst hji
      rw [if_pos rfl]
      rcases hv s hsj with e | e
      · rw [e]
        show fset f s u s = some v
        rcases huv with e2 | e2
        · rw [e2] at e; cases e
        · rw [e2]; simp [fset]
      · cases hdo : o.dst with
        | none => exact e
        | some d =>
          show fset f d u s = some v
          unfold fset
          by_cases hsd : s = d
          · rw [if_pos hsd]
            rcases huv with e2 | e2
            · rw [e2] at hdo; cases hdo
            · rw [e2]
          · rw [if_neg hsd]; exact e
    · rw [if_neg hji]
      have h1 := h.slot j s hj (ne_L j hji hLj) hsj
      cases hdo : o.dst with
      | none => exact h1
      | some d =>
        show fset f d u s = some (val j)
        have h2 := List.all_eq_true.1 hu j (List.mem_range.2 hj)
        rw [hdo] at h2
        have h4 : (tab tb j).pre.contains i = false := by
          apply Classical.byContradiction
          intro hc
          have := h.clo j i hj (ne_L j hji hLj) (by simpa using hc)
          rw [hL] at this; cases this
        have h3 : (tab tb j).slot ≠ some d := by rw [h4] at h2; simpa [hji] using h2
        unfold fset
        rw [if_neg (fun e => h3 (by rw [hsj, e]))]
        exact h1
  · have hmon : ∀ x, L x = true → done1 L i x = true := fun x hx => by unfold done1; split <;> simp_all
    by_cases hji : j1 = i
    · subst hji
      exact hmon _ (hpre j2 hjp)
    · exact hmon _ (h.clo j1 j2 hj (ne_L j1 hji hLj) hjp)
  · by_cases hji : j = i
    · subst hji; simp [done1]
    · have := h.ini j hj hjp
      unfold done1; rw [if_neg hji]; exact this
  · by_cases hji : j = i
    · subst hji
      rw [if_pos rfl]; exact hp
    · rw [if_neg hji]; exact h.pur j hj (ne_L j hji hLj)
  · by_cases hji : j = i
    · subst hji
      rw [if_pos rfl] at hok
      refine ⟨(hS k hok).1, ?_⟩
      rcases (hS k hok).2 with e | ⟨c, hcn, hLc, hc, hck⟩
      · exact Or.inl (Nat.le_trans h.kept.size e)
      · exact (h.rng c k hcn hLc (fun e he => by rw [hc] at he; rw [← Option.some.inj he]; exact hL) hck).2
    · rw [if_neg hji] at hok
      have := h.rng j k hj (ne_L j hji hLj) (alive j hji ha).1 hok
      exact ⟨Nat.lt_of_lt_of_le this.1 hz, this.2⟩
  · by_cases hji : j = i
    · subst hji
      rw [if_pos rfl, if_pos rfl]; exact ho
    · rw [if_neg hji, if_neg hji]
      have hLj' := ne_L j hji hLj
      obtain ⟨ha1, ha2⟩ := alive j hji ha
      refine (h.obj j hj hLj' ha1).next (fun k hok => ?_) hz
      rcases hm k (h.rng j k hj hLj' ha1 hok).1 with e | ⟨_, e⟩ | ⟨c, hcn, hLc, hc, hck⟩
      · exact e
      · exact absurd hok (e j hj hLj' hji (fun x hx => ⟨ha1 x hx, fun hxi => ha2 (by rw [hx, hxi])⟩))
      · exact absurd hok (isc j hj hji hLj' ha k c hcn hLc hc hck)
  · by_cases h1 : j1 = i
    · by_cases h2 : j2 = i
      · rw [h1, h2]
      · subst h1
        rw [if_pos rfl] at ho1
        rw [if_neg h2] at ho2
        have hLj := ne_L j2 h2 hL2
        rcases (hS k ho1).2 with e | ⟨c, hcn, hLc, hc, hck⟩
        · have := h.rng j2 k hj2 hLj (alive j2 h2 ha2).1 ho2; have := this.1; omega
        · exact absurd ho2 (isc j2 hj2 h2 hLj ha2 k c hcn hLc hc hck)
    · by_cases h2 : j2 = i
      · subst h2
        rw [if_pos rfl] at ho2
        rw [if_neg h1] at ho1
        have hLj := ne_L j1 h1 hL1
        rcases (hS k ho2).2 with e | ⟨c, hcn, hLc, hc, hck⟩
        · have := h.rng j1 k hj1 hLj (alive j1 h1 ha1).1 ho1; have := this.1; omega
        · exact absurd ho1 (isc j1 hj1 h1 hLj ha1 k c hcn hLc hc hck)
      · rw [if_neg h1] at ho1
        rw [if_neg h2] at ho2
        exact h.dis j1 j2 k hj1 hj2 (ne_L j1 h1 hL1) (ne_L j2 h2 hL2) (alive j1 h1 ha1).1 (alive j2 h2 ha2).1 ho1 ho2
/-- nothing is made -/
theorem St.quiet (h : St tb M W0 ds a0 f own val L w) {i : Nat} {o : Oper} (hi : i < tb.length) (hL : L i = false) (hd : ∀ d, o.dst = some d → d ∈ ds) (hu : (List.range tb.length).all (fun j => decide (j = i) || (tab tb j).pre.contains i || (match o.dst with | some d => decide ((tab tb j).slot ≠ some d) | none => true)) = true) (hpre : ∀ j ∈ (tab tb i).pre, L j = true) (v : Value) (hv : ∀ s, (tab tb i).slot = some s → o.dst = some s ∨ f s = some v)
    (hp : (tab tb i).P v) (ho : ∀ S w, (tab tb i).R v S w) {u : Value} (huv : o.dst = none ∨ u = v) : StJ tb M W0 ds a0 (done1 L i) ((upd a0 f).put o.dst u) w :=
  h.step hi hL hd hu hpre v hv (fun _ => False) w h.kept (Nat.le_refl _) (fun k _ => Or.inl rfl) (fun k hk => hk.elim) hp (fun w' _ _ => ho _ w') huv
/-- what was made by another one is handed on -/
theorem St.pass (h : St tb M W0 ds a0 f own val L w) {i : Nat} {o : Oper} (c : Nat) (hcn : c < tb.length) (hLc : L c = true) (hcc : (tab tb c).cons = some i) (hi : i < tb.length) (hL : L i = false) (hd : ∀ d, o.dst = some d → d ∈ ds) (hu : (List.range tb.length).all (fun j => decide (j = i) || (tab tb j).pre.contains i || (match o.dst with | some d => decide ((tab tb j).slot ≠ some d) | none => true)) = true) (hpre : ∀ j ∈ (tab tb i).pre, L j = true) (v : Value) (hv : ∀ s, (tab tb i).slot = some s → o.dst = some s ∨ f s = some v)
    (hp : (tab tb i).P v) (ho : ∀ S w, (tab tb c).R (val c) S w → (tab tb i).R v S w) {u : Value} (huv : o.dst = none ∨ u = v) : StJ tb M W0 ds a0 (done1 L i) ((upd a0 f).put o.dst u) w :=
  have halive : ∀ e, (tab tb c).cons = some e → L e = false := fun e he => by rw [hcc] at he; rw [← Option.some.inj he]; exact hL
  h.step hi hL hd hu hpre v hv (own c) w h.kept (Nat.le_refl _) (fun k _ => Or.inl rfl) (fun k hk => ⟨(h.rng c k hcn hLc halive hk).1, Or.inr ⟨c, hcn, hLc, hcc, hk⟩⟩) hp (fun w' h1 h2 => ho _ w' (h.obj c hcn hLc halive w' h1 h2)) huv
/-- who waits is not done before -/
theorem St.late (h : St tb M W0 ds a0 f own val L w) (i j : Nat) (hi : i < tb.length) (hj : j ∈ (tab tb i).pre) (hL : L j = false) : L i = false := by
  cases hc : L i with
  | false => rfl
  | true => rw [h.clo i j hi hc hj] at hL; cases hL
/-- something is made in new blocks -/
theorem St.make (h : St tb M W0 ds a0 f own val L w) {i : Nat} {o : Oper} (hi : i < tb.length) (hL : L i = false) (hd : ∀ d, o.dst = some d → d ∈ ds) (hu : (List.range tb.length).all (fun j => decide (j = i) || (tab tb j).pre.contains i || (match o.dst with | some d => decide ((tab tb j).slot ≠ some d) | none => true)) = true) (hpre : ∀ j ∈ (tab tb i).pre, L j = true) (v : Value) (hv : ∀ s, (tab tb i).slot = some s → o.dst = some s ∨ f s = some v)
    (w' : World) (hb : Below w.heap.size w w') (hp : (tab tb i).P v) (ho : Obj w' (fun k => w.heap.size ≤ k ∧ k < w'.heap.size) ((tab tb i).R v (fun k => w.heap.size ≤ k ∧ k < w'.heap.size))) {u : Value} (huv : o.dst = none ∨ u = v) : StJ tb M W0 ds a0 (done1 L i) ((upd a0 f).put o.dst u) w' :=
  h.step hi hL hd hu hpre v hv _ w' ⟨hb.os.trans h.kept.os, hb.tape.trans h.kept.tape, hb.output.trans h.kept.output, Nat.le_trans h.kept.size hb.size, fun k hk hm => (hb.block k (Nat.lt_of_lt_of_le hk h.kept.size)).trans (h.kept.block k hk hm)⟩ hb.size (fun k hk => Or.inl (hb.block k hk)) (fun k hk => ⟨hk.2, Or.inl hk.1⟩) hp ho huv
/-- what another one made is laid into new blocks -/
theorem St.wrap (h : St tb M W0 ds a0 f own val L w) {i : Nat} {o : Oper} (c : Nat) (hcn : c < tb.length) (hLc : L c = true) (hcc : (tab tb c).cons = some i) (hi : i < tb.length) (hL : L i = false) (hd : ∀ d, o.dst = some d → d ∈ ds) (hu : (List.range tb.length).all (fun j => decide (j = i) || (tab tb j).pre.contains i || (match o.dst with | some d => decide ((tab tb j).slot ≠ some d) | none => true)) = true) (hpre : ∀ j ∈ (tab tb i).pre, L j = true) (v : Value) (hv : ∀ s, (tab tb i).slot = some s → o.dst = some s ∨ f s = some v)
    (w' : World) (hb : Below w.heap.size w w') (hp : (tab tb i).P v) (ho : Obj w' (fun k => (w.heap.size ≤ k ∧ k < w'.heap.size) ∨ own c k) ((tab tb i).R v (fun k => (w.heap.size ≤ k ∧ k < w'.heap.size) ∨ own c k))) {u : Value} (huv : o.dst = none ∨ u = v) : StJ tb M W0 ds a0 (done1 L i) ((upd a0 f).put o.dst u) w' :=
  have halive : ∀ e, (tab tb c).cons = some e → L e = false := fun e he => by rw [hcc] at he; rw [← Option.some.inj he]; exact hL
  h.step hi hL hd hu hpre v hv _ w' ⟨hb.os.trans h.kept.os, hb.tape.trans h.kept.tape, hb.output.trans h.kept.output, Nat.le_trans h.kept.size hb.size, fun k hk hm => (hb.block k (Nat.lt_of_lt_of_le hk h.kept.size)).trans (h.kept.block k hk hm)⟩ hb.size (fun k hk => Or.inl (hb.block k hk)) (fun k hk => by
    rcases hk with hk | hk
    · exact ⟨hk.2, Or.inl hk.1⟩
    · exact ⟨Nat.lt_of_lt_of_le (h.rng c k hcn hLc halive hk).1 hb.size, Or.inr ⟨c, hcn, hLc, hcc, hk⟩⟩) hp ho huv
/-- one block that another one made is written, or given up for a new one -/
theorem St.turn (h : St tb M W0 ds a0 f own val L w) {i : Nat} {o : Oper} (c : Nat) (hcn : c < tb.length) (hLc : L c = true) (hcc : (tab tb c).cons = some i) (hi : i < tb.length) (hL : L i = false) (hd : ∀ d, o.dst = some d → d ∈ ds) (hu : (List.range tb.length).all (fun j => decide (j = i) || (tab tb j).pre.contains i || (match o.dst with | some d => decide ((tab tb j).slot ≠ some d) | none => true)) = true) (hpre : ∀ j ∈ (tab tb i).pre, L j = true) (v : Value) (hv : ∀ s, (tab tb i).slot = some s → o.dst = some s ∨ f s = some v)
    (g0 : Nat) (hg0 : own c g0) (w' : World) (hb : Below 0 w w') (hblk : ∀ k, k < w.heap.size → k ≠ g0 → w'.heap[k]? = w.heap[k]?) (hp : (tab tb i).P v) (S : Nat → Prop) (hS : ∀ k, S k → k < w'.heap.size ∧ (w.heap.size ≤ k ∨ own c k ∨ ∃ d, d < tb.length ∧ L d = true ∧ (tab tb d).cons = some i ∧ own d k)) (ho : Obj w' S ((tab tb i).R v S)) {u : Value} (huv : o.dst = none ∨ u = v) : StJ tb M W0 ds a0 (done1 L i) ((upd a0 f).put o.dst u) w' :=
  have halive : ∀ e, (tab tb c).cons = some e → L e = false := fun e he => by rw [hcc] at he; rw [← Option.some.inj he]; exact hL
  h.step hi hL hd hu hpre v hv S w' ⟨hb.os.trans h.kept.os, hb.tape.trans h.kept.tape, hb.output.trans h.kept.output, Nat.le_trans h.kept.size hb.size, fun k hk hm => (hblk k (Nat.lt_of_lt_of_le hk h.kept.size) (fun e => by
    rcases (h.rng c g0 hcn hLc halive hg0).2 with e2 | e2
    · omega
    · exact hm (by rw [e]; exact e2))).trans (h.kept.block k hk hm)⟩ hb.size (fun k hk => by
    by_cases e : k = g0
    · rw [e]; exact Or.inr (Or.inr ⟨c, hcn, hLc, hcc, hg0⟩)
    · exact Or.inl (hblk k hk e)) (fun k hk => by
    obtain ⟨h1, h2⟩ := hS k hk
    refine ⟨h1, ?_⟩
    rcases h2 with h2 | h2 | h2
    · exact Or.inl h2
    · exact Or.inr ⟨c, hcn, hLc, hcc, h2⟩
    · exact Or.inr h2) hp ho huv
end
theorem row_blk {w w' : World} {B : Nat} {e : TypeId} {sz g n c : Nat} {xs : List Value} (h : w.ownsRow B e sz (.slice (some ⟨g, 0, none⟩) n c) n xs) (hb : w'.heap[g]? = w.heap[g]?) : w'.ownsRow B e sz (.slice (some ⟨g, 0, none⟩) n c) n xs := by
  refine ⟨h.1, ?_⟩
  rcases h.2 with ⟨e1, _⟩ | ⟨g', cap, cur, e1, e2, e3, e4⟩
  · cases e1
  · have : g' = g := by injection e1 with e5; have := Option.some.inj e5; injection this with e6; exact e6.symm
    subst this
    exact Or.inr ⟨g', cap, cur, e1, e2, hb.trans e3, e4⟩
theorem row_at {w : World} {B : Nat} {e : TypeId} {sz g n c : Nat} {xs : List Value} (h : w.ownsRow B e sz (.slice (some ⟨g, 0, none⟩) n c) n xs) : B ≤ g ∧ g < w.heap.size := h.lt g rfl
/-- a row of one's own in a block of its own -/
def RowIt (B : Nat) (e : TypeId) (sz n : Nat) (xs : List Value) : Value → (Nat → Prop) → World → Prop := fun v S w => ∃ g c, v = .slice (some ⟨g, 0, none⟩) n c ∧ S g ∧ w.ownsRow B e sz (.slice (some ⟨g, 0, none⟩) n c) n xs
theorem RowIt.obj {w : World} {B : Nat} {e : TypeId} {sz n g c : Nat} {xs : List Value} (h : w.ownsRow B e sz (.slice (some ⟨g, 0, none⟩) n c) n xs) {S : Nat → Prop} (hS : S g) : Obj w S (RowIt B e sz n xs (.slice (some ⟨g, 0, none⟩) n c) S) :=
  fun W h1 _ => ⟨g, c, rfl, hS, row_blk h (h1 g hS)⟩
theorem row_empty (B : Nat) (e : TypeId) (sz : Nat) (w : World) (hB : B ≤ w.heap.size) : (w.alloc (.cells #[] e)).ownsRow B e sz (.slice (some ⟨w.heap.size, 0, none⟩) 0 0) 0 [] :=
  ⟨by simp, Or.inr ⟨w.heap.size, 0, #[], rfl, hB, heap_alloc_new w _, Nat.le_refl _, by unfold maxLen; omega, by simp, by simp⟩⟩
/-- append of whatever can be read, nil too, onto a row of one's own that is not nil -/
theorem wp_append_rowg {P : Program} {w : World} {o : Oper} {a : Act} {K : Act → World → Prop} {Q : Exit → Act → World → Prop} (s x : Operand) (t e : TypeId)
    (ho : o.op = .call { callee := .builtin .append, args := #[s, x], argTypes := #[t, t] }) (base : Nat) (z : Value) (sz by_ : Nat) (ht : P.underlying t = some (.slice e)) (hinf : (P.info? e).map (fun i => (i.zero, i.size, i.bytes)) = some (some z, sz, by_)) (hzs : z.cells.size = sz) (hsz : 0 < sz)
    (g0 n cap0 : Nat) (xs : List Value) (hs : a.eval s = .slice (some ⟨g0, 0, none⟩) n cap0) (hown : w.ownsRow base e sz (.slice (some ⟨g0, 0, none⟩) n cap0) n xs)
    (A : Option Addr) (m c : Nat) (news : List Value) (hl : news.length = m * sz) (hx : a.eval x = .slice A m c) (hnil : A = none → c = 0 ∧ m = 0) (hu : ∀ ad, A = some ad → ∀ j u, news[j]? = some u → w.cell? (ad.add j) = some u) (h1c : ∀ u ∈ news, u.oneCell' = true)
    (hmax : n + m ≤ maxLen) (hbytes : (n + m) * by_ ≤ 140737488355328) (hbase : base ≤ w.heap.size)
    (h : ∀ g' cap' w', w'.ownsRow base e sz (.slice (some ⟨g', 0, none⟩) (n + m) cap') (n + m) (xs ++ news) → Below base w w' → (∀ k, k < w.heap.size → k ≠ g0 → w'.heap[k]? = w.heap[k]?) → w.heap.size ≤ w'.heap.size → (g' = g0 ∨ g' = w.heap.size) → K (a.put o.dst (.slice (some ⟨g', 0, none⟩) (n + m) cap')) w') : o.wp P a w K Q := by
  obtain ⟨i, hi, hz0, hz1, hz2⟩ : ∃ i, P.info? e = some i ∧ i.zero = some z ∧ i.size = sz ∧ i.bytes = by_ := by
    cases hh : P.info? e with
    | none => rw [hh] at hinf; simp at hinf
    | some i => rw [hh] at hinf; simp at hinf; exact ⟨i, rfl, hinf.1, hinf.2.1, hinf.2.2⟩
  match A, hnil, hu, hx with
  | none, hnil, hu, hx =>
    obtain ⟨hc0, hm0⟩ := hnil rfl
    subst hc0 hm0
    have hn0 : news = [] := List.eq_nil_of_length_eq_zero (by rw [hl]; simp)
    subst hn0
    have hrun := run_append_owned_none (P := P) (w := w) base t o.type e i sz ht hi (.slice (some ⟨g0, 0, none⟩) n cap0) n xs hown
    unfold Oper.wp
    simp [execOp, ho, resolve, invoke, builtin, hs, hx, hrun, Result.andThen]
    exact h g0 cap0 w (by simpa using hown) (Below.refl _ _) (fun _ _ _ => rfl) (Nat.le_refl _) (Or.inl rfl)
  | some ad, hnil, hu, hx =>
    by_cases h0 : m = 0
    · subst h0
      have hn0 : news = [] := List.eq_nil_of_length_eq_zero (by rw [hl]; simp)
      subst hn0
      have hcap : n + 0 ≤ cap0 := by
        rcases hown.2 with ⟨e, _⟩ | ⟨g, cap, cur, e, e2, e3, e4, _⟩
        · cases e
        · injection e with _ _ e5
          rw [e5]; exact e4
      refine wp_append_own_spare w s x t ho base e i sz ht hi hz1 g0 n cap0 xs hs hown ad 0 c [] hx (by simp) (fun j u hj => by simp at hj) (fun u hu => by simp at hu) hcap (fun w' h2 h3 => ?_)
      exact h g0 cap0 w' (by simpa using h2) ((Below.refl base w).grown h3 hbase (fun k hk => (hown.lt k hk).1)) (fun k hk hne => h3.block k hk (fun e => hne (Option.some.inj e))) h3.size (Or.inl rfl)
    · refine wp_append_lies w s x t ho base e i z sz by_ ht hi hz0 hz1 hz2 hzs hsz _ n xs hs hown ad m c news hx hl (hu ad rfl) h1c (Nat.pos_of_ne_zero h0) hmax hbytes hbase w.heap.size rfl (fun g cap w' h2 h3 h4 h5 => ?_)
      refine h g cap w' h2 ((Below.refl base w).grown h3 hbase (fun k hk => (hown.lt k hk).1)) (fun k hk hne => h3.block k hk (fun e => hne (by simpa [Value.ownBlock] using e))) h3.size ?_
      rcases h4 with h4 | h4
      · left; simpa [Value.ownBlock, eq_comm] using h4
      · exact Or.inr h4
theorem wanted_step {P : Program} {o : Oper} {a : Act} {w : World} {K : Act → World → Prop} {Q : Exit → Act → World → Prop} {y : Nat → Option Bool} {E : Prop} (hg : o.guard = none) (h : o.wp P a w K Q) : if Region.wanted o y = true then o.wp P a w K Q else E := by
  rw [if_pos (by simp [Region.wanted, hg])]; exact h
/-- the region's frame as a letter -/
theorem wp_letter {P : Program} {c : Code} {Q : Exit → Act → World → Prop} {a : Act} {w : World} (h : ∀ a0, a0 = a → c.wp P Q a0 w) : c.wp P Q a w := h a rfl
section
variable {tb : List Item} {M : Nat → Prop} {W0 : World} {ds : List Nat} {a0 : Act} {f : Nat → Option Value} {own : Nat → Nat → Prop} {val : Nat → Value} {L : Nat → Bool} {w : World}
/-- an append onto a row that another operation made -/
theorem St.app (h : St tb M W0 ds a0 f own val L w) {P : Program} {Q : Exit → Act → World → Prop} {i : Nat} {o : Oper} (c sc : Nat) (hcn : c < tb.length) (hLc : L c = true) (hcc : (tab tb c).cons = some i) (hsc : (tab tb c).slot = some sc) (hst : sc < a0.tmps.size) {base : Nat} {e : TypeId} {sz n : Nat} {xs : List Value} (hR : (tab tb c).R = RowIt base e sz n xs)
    (hi : i < tb.length) (hL : L i = false) (hd : ∀ d, o.dst = some d → d ∈ ds) (hu : (List.range tb.length).all (fun j => decide (j = i) || (tab tb j).pre.contains i || (match o.dst with | some d => decide ((tab tb j).slot ≠ some d) | none => true)) = true) (hpre : ∀ j ∈ (tab tb i).pre, L j = true) (hv : ∀ s, (tab tb i).slot = some s → o.dst = some s)
    (x : Operand) (t : TypeId) (ho : o.op = .call { callee := .builtin .append, args := #[.tmp sc, x], argTypes := #[t, t] }) (z : Value) (by_ : Nat) (ht : P.underlying t = some (.slice e)) (hinf : (P.info? e).map (fun i => (i.zero, i.size, i.bytes)) = some (some z, sz, by_)) (hzs : z.cells.size = sz) (hsz : 0 < sz)
    (A : Option Addr) (m c' : Nat) (news : List Value) (hl : news.length = m * sz) (hx : (upd a0 f).eval x = .slice A m c') (hnil : A = none → c' = 0 ∧ m = 0) (hnews : ∀ ad, A = some ad → ∀ j u, news[j]? = some u → w.cell? (ad.add j) = some u) (h1c : ∀ u ∈ news, u.oneCell' = true)
    (hmax : n + m ≤ maxLen) (hbytes : (n + m) * by_ ≤ 140737488355328) (hbase : base ≤ w.heap.size)
    (hR2 : (tab tb i).R = RowIt base e sz (n + m) (xs ++ news)) (hP : ∀ v, (tab tb i).P v) {K : Act → World → Prop} (hK : ∀ a' w', StJ tb M W0 ds a0 (done1 L i) a' w' → K a' w') : o.wp P (upd a0 f) w K Q := by
  have hob := (h.mine c i hcn hLc hcc hL).now
  rw [hR] at hob
  obtain ⟨g0, cap0, hv0, hs0, hr0⟩ := hob
  have hes : (upd a0 f).eval (.tmp sc) = .slice (some ⟨g0, 0, none⟩) n cap0 := (h.ev c sc hcn hLc hsc hst).trans hv0
  refine wp_append_rowg (.tmp sc) x t e ho base z sz by_ ht hinf hzs hsz g0 n cap0 xs hes hr0 A m c' news hl hx hnil hnews h1c hmax hbytes hbase (fun g' cap' w' h1 h2 h3 h4 h5 => hK _ _ ?_)
  refine h.turn c hcn hLc hcc hi hL hd hu hpre (.slice (some ⟨g', 0, none⟩) (n + m) cap') (fun s hs => Or.inl (hv s hs)) g0 hs0 w' (Below.mono h2 (Nat.zero_le _)) h3 (hP _) (fun k => k = g') (fun k hk => ?_) (by rw [hR2]; exact RowIt.obj h1 rfl) (Or.inr rfl)
  subst hk
  refine ⟨(row_at h1).2, ?_⟩
  rcases h5 with h5 | h5
  · exact Or.inr (Or.inl (by rw [h5]; exact hs0))
  · exact Or.inl (Nat.le_of_eq h5.symm)
end
theorem wp_of_run {P : Program} {o : Oper} {a : Act} {w w' : World} {v : Value} {K : Act → World → Prop} {Q : Exit → Act → World → Prop} (h : (execOp a.eval o).run P w = .ok (.value v) w') (hK : K (a.put o.dst v) w') : o.wp P a w K Q := by
  unfold Oper.wp; rw [h]; exact hK
theorem wp_of_skip {P : Program} {o : Oper} {a : Act} {w w' : World} {K : Act → World → Prop} {Q : Exit → Act → World → Prop} (h : (execOp a.eval o).run P w = .ok .skip w') (hK : K (a.put o.dst undef) w') : o.wp P a w K Q := by
  unfold Oper.wp; rw [h]; exact hK
theorem wp_of_call {P : Program} {o : Oper} {a : Act} {w w1 : World} {g : FuncId} {args : Array Value} {K : Act → World → Prop} {Q : Exit → Act → World → Prop} {R : Ending → World → Prop} (h : (execOp a.eval o).run P w = .ok (.enter g args) w1) (hc : Calls P g args w1 R) (hK : ∀ e w', R e w' → ∃ v, e = .returned v ∧ K (a.put o.dst v) w') : o.wp P a w K Q := by
  unfold Oper.wp; rw [h]
  refine Calls.mono hc fun e w' he => ?_
  obtain ⟨v, rfl, hv⟩ := hK e w' he
  exact hv
end Go.Proofs.Ytnjnalehfhfefaa
