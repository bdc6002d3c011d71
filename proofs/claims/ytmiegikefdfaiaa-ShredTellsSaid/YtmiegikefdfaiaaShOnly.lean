/- Plain: what is assembled has just the columns it was assembled from. -/
import Derived.Test.YtmiegikefdfaiaaShA6
namespace Go.Proofs.Ytmiegikefdfaiaa.Sh
set_option linter.unusedVariables false

/-- columns, each with so much more -/
def Ext (cols cols' : List (List Lv)) (D : Nat → List Lv) : Prop := cols'.length = cols.length ∧ ∀ i, cols'.getD i [] = cols.getD i [] ++ D i
/-- columns of which so much is taken -/
def Cons (lf lf' : List (List Lv)) (D : Nat → List Lv) : Prop := lf'.length = lf.length ∧ ∀ i, lf.getD i [] = D i ++ lf'.getD i []
theorem Ext.refl (cols : List (List Lv)) : Ext cols cols (fun _ => []) := ⟨rfl, fun i => by simp⟩
theorem Ext.trans {a b c : List (List Lv)} {D E : Nat → List Lv} (h : Ext a b D) (k : Ext b c E) : Ext a c (fun i => D i ++ E i) := ⟨k.1.trans h.1, fun i => by rw [k.2, h.2, List.append_assoc]⟩
theorem Cons.refl (lf : List (List Lv)) : Cons lf lf (fun _ => []) := ⟨rfl, fun i => rfl⟩
theorem Cons.trans {a b c : List (List Lv)} {D E : Nat → List Lv} (h : Cons a b D) (k : Cons b c E) : Cons a c (fun i => D i ++ E i) := ⟨k.1.trans h.1, fun i => by rw [h.2, k.2, List.append_assoc]⟩
def at1 (c : Nat) (l : Lv) (i : Nat) : List Lv := if i = c then [l] else []
theorem ext_push (cols : List (List Lv)) (c : Nat) (l : Lv) (h : c < cols.length) : Ext cols (push cols c l) (at1 c l) := by
  refine ⟨push_length _ _ _, fun i => ?_⟩
  rw [push_get _ _ _ h]
  unfold at1
  by_cases e : i = c
  · rw [if_pos e, if_pos e, e]
  · rw [if_neg e, if_neg e, List.append_nil]
theorem cons_set (lf : List (List Lv)) (c : Nat) (x : Lv) (t : List Lv) (hc : c < lf.length) (h : lf.getD c [] = x :: t) : Cons lf (lf.set c t) (at1 c x) := by
  refine ⟨List.length_set, fun i => ?_⟩
  unfold at1
  by_cases e : i = c
  · subst e
    rw [if_pos rfl, h]
    simp [List.getD, hc]
  · rw [if_neg e]
    unfold List.getD
    rw [List.getElem?_set_ne (Ne.symm e)]; rfl

/-- what is assembled by f is shredded by g as it was -/
def Sim (N : Nat) (f : As → Option As) (g : Sd → Option Sd) : Prop :=
  ∀ lf rec lf' rec', lf.length = N → f (lf, rec) = some (lf', rec') → ∃ nums D, rec' = rec ++ nums ∧ Cons lf lf' D ∧ (rec.length ≤ 64 → rec'.length ≤ 64) ∧
    ∀ tail cols, cols.length = N → ∃ cols', g (nums ++ tail, cols) = some (tail, cols') ∧ Ext cols cols' D
theorem sim_id (N : Nat) : Sim N some some := by
  intro lf rec lf' rec' hN h
  cases h
  exact ⟨[], fun _ => [], by simp, Cons.refl _, fun h => h, fun tail cols _ => ⟨cols, rfl, Ext.refl _⟩⟩
theorem sim_comp {N : Nat} {f f' : As → Option As} {g g' : Sd → Option Sd} (h : Sim N f g) (k : Sim N f' g') : Sim N (fun st => (f st).bind f') (fun st => (g st).bind g') := by
  intro lf rec lf' rec' hN hf
  cases hx : f (lf, rec) with
  | none => simp only [hx] at hf; cases hf
  | some st =>
    obtain ⟨l1, r1⟩ := st
    simp only [hx, Option.bind_some] at hf
    obtain ⟨n1, D1, e1, c1, b1, g1⟩ := h lf rec l1 r1 hN hx
    obtain ⟨n2, D2, e2, c2, b2, g2⟩ := k l1 r1 lf' rec' (c1.1.trans hN) hf
    refine ⟨n1 ++ n2, fun i => D1 i ++ D2 i, by rw [e2, e1, List.append_assoc], c1.trans c2, fun h => b2 (b1 h), fun tail cols hc => ?_⟩
    obtain ⟨x1, h1, y1⟩ := g1 (n2 ++ tail) cols hc
    obtain ⟨x2, h2, y2⟩ := g2 tail x1 (y1.1.trans hc)
    refine ⟨x2, ?_, y1.trans y2⟩
    simp only [List.append_assoc, h1, Option.bind_some, h2]
theorem asPut_some {rec rec' : List Nat} {n : Nat} (h : asPut rec n = some rec') : rec' = rec ++ [n] ∧ (rec.length ≤ 64 → rec'.length ≤ 64) := by
  unfold asPut at h
  split at h
  · cases h
  · cases h
    exact ⟨rfl, fun hl => by rw [List.length_append]; simp; omega⟩
theorem sim_level (N c rep d : Nat) (there : Bool) (hc : c < N) : Sim N (fun st => asLevel st c rep d there) (fun st => sdLevel st c rep d there) := by
  intro lf rec lf' rec' hN h
  unfold asLevel at h
  cases hl : lf.getD c [] with
  | nil => simp only [hl] at h; cases h
  | cons x t =>
    simp only [hl] at h
    cases there with
    | false =>
      simp only [Bool.false_eq_true, if_false, Option.bind_some] at h
      split at h
      · cases h
        rename_i e
        refine ⟨[], at1 c x, by simp, cons_set lf c x t (by omega) hl, fun h => h, fun tail cols hcl => ⟨push cols c ((rep : Int), (d : Int), 0), rfl, ?_⟩⟩
        rw [e]; exact ext_push _ _ _ (by omega)
      · cases h
    | true =>
      simp only [if_true] at h
      cases hp : asPut rec x.2.2 with
      | none => rw [hp] at h; cases h
      | some r1 =>
        rw [hp] at h
        simp only [Option.bind_some] at h
        split at h
        · cases h
          rename_i e
          obtain ⟨e1, b1⟩ := asPut_some hp
          refine ⟨[x.2.2], at1 c x, e1, cons_set lf c x t (by omega) hl, b1, fun tail cols hcl => ⟨push cols c ((rep : Int), (d : Int), x.2.2), rfl, ?_⟩⟩
          have : ((rep : Int), (d : Int), x.2.2) = x := e.symm
          rw [this]; exact ext_push _ _ _ (by omega)
        · cases h
theorem sim_nulls (N rep d : Nat) : ∀ (m c : Nat), c + m ≤ N → Sim N (nulls asLevel m c rep d) (nulls sdLevel m c rep d)
  | 0, c, h => sim_id N
  | m + 1, c, h => sim_comp (sim_level N c rep d false (by omega)) (sim_nulls N rep d m (c + 1) (by omega))
theorem sim_times (N : Nat) (f : Nat → As → Option As) (g : Nat → Sd → Option Sd) (h : ∀ rp, Sim N (f rp) (g rp)) : ∀ (n rep rep' : Nat), Sim N (times f n rep rep') (times g n rep rep')
  | 0, _, _ => sim_id N
  | n + 1, rep, rep' => sim_comp (h rep) (sim_times N f g h n rep' rep')
theorem seen_one {lf : List (List Lv)} {r D P c m : Nat} (h : asSeen lf r D P c = some m) : ¬ (r = 1 ∧ 1 < m) := by
  unfold asSeen at h
  split at h
  · cases h
  · rintro ⟨h1, h2⟩
    split at h
    · cases h; omega
    · rename_i hz
      cases h
      omega
theorem sim_often (N r D P c : Nat) (f : Nat → As → Option As) (g : Nat → Sd → Option Sd) (h : ∀ m, Sim N (f m) (g m)) :
    Sim N (fun st => (asOften st r D P c).bind fun x => f x.1 x.2) (fun st => (sdOften st r D P c).bind fun x => g x.1 x.2) := by
  intro lf rec lf' rec' hN hf
  unfold asOften at hf
  cases hs : asSeen lf r D P c with
  | none => simp only [hs] at hf; cases hf
  | some m =>
    simp only [hs, Option.bind_some] at hf
    cases hp : asPut rec m with
    | none => rw [hp] at hf; cases hf
    | some r1 =>
      rw [hp] at hf
      simp only [Option.map_some, Option.bind_some] at hf
      obtain ⟨e1, b1⟩ := asPut_some hp
      obtain ⟨n2, D2, e2, c2, b2, g2⟩ := h m lf r1 lf' rec' hN hf
      refine ⟨m :: n2, D2, by rw [e2, e1]; simp, c2, fun h => b2 (b1 h), fun tail cols hc => ?_⟩
      obtain ⟨x, h1, y⟩ := g2 tail cols hc
      refine ⟨x, ?_, y⟩
      have : sdOften (m :: n2 ++ tail, cols) r D P c = some (m, (n2 ++ tail, cols)) := by
        show (if r = 1 ∧ 1 < m then none else some (m, (n2 ++ tail, cols))) = _
        rw [if_neg (seen_one hs)]
      simp only [this, Option.bind_some, h1]
theorem sim_al (N : Nat) : ∀ (F : F) (d p c rep : Nat), c + leaves F ≤ N → Sim N (al asW F d p c rep) (al sdW F d p c rep)
  | .nil, d, p, c, rep, h => sim_id N
  | .cons r k s, d, p, c, rep, h => by
    rw [leaves_cons] at h
    have hk : ∀ rp, Sim N (al asW k (dn r d) (rn r p) c rp) (al sdW k (dn r d) (rn r p) c rp) := fun rp => sim_al N k _ _ _ _ (by
      cases k with
      | nil => simp only [leaves]; omega
      | cons r' k' s' =>
        have : lv1 (.cons r' k' s') = leaves (.cons r' k' s') := rfl
        omega)
    have hc : c < N := by
      have : 0 < lv1 k := lv1_pos k
      omega
    have hb : ∀ rp, Sim N (body asW k (dn r d) (rn r p) c rp) (body sdW k (dn r d) (rn r p) c rp) := fun rp => by
      unfold body
      by_cases hn : isNil k = true
      · simp only [if_pos hn]
        exact sim_comp (sim_level N c rp (dn r d) true hc) (hk rp)
      · simp only [if_neg hn]
        exact sim_comp (sim_id N) (hk rp)
    have ht : ∀ m, Sim N (fun st => (if m = 0 then nulls asLevel (lv1 k) c rep d st else some st).bind (times (body asW k (dn r d) (rn r p) c) m rep (rn r p)))
        (fun st => (if m = 0 then nulls sdLevel (lv1 k) c rep d st else some st).bind (times (body sdW k (dn r d) (rn r p) c) m rep (rn r p))) := fun m => by
      by_cases hm : m = 0
      · simp only [if_pos hm]
        exact sim_comp (sim_nulls N rep d (lv1 k) c (by omega)) (sim_times N _ _ hb m rep (rn r p))
      · simp only [if_neg hm]
        exact sim_comp (sim_id N) (sim_times N _ _ hb m rep (rn r p))
    have h1 : Sim N (al1 asW r k d p c rep) (al1 sdW r k d p c rep) := by
      unfold al1
      by_cases h0 : r = 0
      · simp only [if_pos h0, Option.bind_some]
        exact ht 1
      · simp only [if_neg h0]
        exact sim_often N r (dn r d) (rn r p) c _ _ ht
    exact sim_comp h1 (sim_al N s d p (c + lv1 k) rep (by omega))
end Go.Proofs.Ytmiegikefdfaiaa.Sh
