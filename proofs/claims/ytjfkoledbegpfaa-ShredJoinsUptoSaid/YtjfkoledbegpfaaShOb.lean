/- ShOnly, ShOnly2, ShBack, ShBack2. -/
import Derived.Test.YtjfkoledbegpfaaShA6
import Derived.Test.YtjfkoledbegpfaaShAz
/- Plain: what is assembled has just the columns it was assembled from. -/
namespace Go.Proofs.Ytjfkoledbegpfaa.Sh
set_option linter.unusedVariables false

/-- columns, each with so much more -/
def Ext (cols cols' : List (List Lv)) (D : Nat → List Lv) : Prop := cols'.length = cols.length ∧ ∀ i, cols'.getD i [] = cols.getD i [] ++ D i
/-- columns of which so much is taken -/
def Cons (lf lf' : List (List Lv)) (D : Nat → List Lv) : Prop := lf'.length = lf.length ∧ ∀ i, lf.getD i [] = D i ++ lf'.getD i []
theorem Ext.refl (cols : List (List Lv)) : Ext cols cols (fun _ => []) := ⟨rfl, fun i => by simp⟩
theorem Ext.trans {a b c : List (List Lv)} {D E : Nat → List Lv} (h : Ext a b D) (k : Ext b c E) : Ext a c (fun i => D i ++ E i) := ⟨k.1.trans h.1, fun i => by rw [k.2, h.2, List.append_assoc]⟩
theorem Cons.refl (lf : List (List Lv)) : Cons lf lf (fun _ => []) := ⟨rfl, fun i => rfl⟩
theorem Cons.trans {a b c : List (List Lv)} {D E : Nat → List Lv} (h : Cons a b D) (k : Cons b c E) : Cons a c (fun i => D i ++ E i) := ⟨k.1.trans h.1, fun i => by rw [h.2, k.2, List.append_assoc]⟩
def at1 (c : Nat) (l : Lv) (i : Nat) : List Lv := if i = c then [l] else []
theorem ext_push (cols : List (List Lv)) (c : Nat) (l : Lv) (h : c < cols.length) : Ext cols (push cols c l) (at1 c l) := by
  refine ⟨push_length _ _ _, fun i => ?_⟩
  rw [push_get _ _ _ h]
  unfold at1
  by_cases e : i = c
  · rw [if_pos e, if_pos e, e]
  · rw [if_neg e, if_neg e, List.append_nil]
theorem cons_set (lf : List (List Lv)) (c : Nat) (x : Lv) (t : List Lv) (hc : c < lf.length) (h : lf.getD c [] = x :: t) : Cons lf (lf.set c t) (at1 c x) := by
  refine ⟨List.length_set, fun i => ?_⟩
  unfold at1
  by_cases e : i = c
  · subst e
    rw [if_pos rfl, h]
    simp [List.getD, hc]
  · rw [if_neg e]
    unfold List.getD
    rw [List.getElem?_set_ne (Ne.symm e)]; rfl

/-- what is assembled by f is shredded by g as it was -/
def Sim (N : Nat) (f : As → Option As) (g : Sd → Option Sd) : Prop :=
  ∀ lf rec lf' rec', lf.length = N → f (lf, rec) = some (lf', rec') → ∃ nums D, rec' = rec ++ nums ∧ Cons lf lf' D ∧ (rec.length ≤ 64 → rec'.length ≤ 64) ∧
    ∀ tail cols, cols.length = N → ∃ cols', g (nums ++ tail, cols) = some (tail, cols') ∧ Ext cols cols' D
theorem sim_id (N : Nat) : Sim N some some := by
  intro lf rec lf' rec' hN h
  cases h
  exact ⟨[], fun _ => [], by simp, Cons.refl _, fun h => h, fun tail cols _ => ⟨cols, rfl, Ext.refl _⟩⟩
theorem sim_comp {N : Nat} {f f' : As → Option As} {g g' : Sd → Option Sd} (h : Sim N f g) (k : Sim N f' g') : Sim N (fun st => (f st).bind f') (fun st => (g st).bind g') := by
  intro lf rec lf' rec' hN hf
  cases hx : f (lf, rec) with
  | none => simp only [hx] at hf; cases hf
  | some st =>
    obtain ⟨l1, r1⟩ := st
    simp only [hx, Option.bind_some] at hf
    obtain ⟨n1, D1, e1, c1, b1, g1⟩ := h lf rec l1 r1 hN hx
    obtain ⟨n2, D2, e2, c2, b2, g2⟩ := k l1 r1 lf' rec' (c1.1.trans hN) hf
    refine ⟨n1 ++ n2, fun i => D1 i ++ D2 i, by rw [e2, e1, List.append_assoc], c1.trans c2, fun h => b2 (b1 h), fun tail cols hc => ?_⟩
    obtain ⟨x1, h1, y1⟩ := g1 (n2 ++ tail) cols hc
    obtain ⟨x2, h2, y2⟩ := g2 tail x1 (y1.1.trans hc)
    refine ⟨x2, ?_, y1.trans y2⟩
    simp only [List.append_assoc, h1, Option.bind_some, h2]
theorem asPut_some {rec rec' : List Nat} {n : Nat} (h : asPut rec n = some rec') : rec' = rec ++ [n] ∧ (rec.length ≤ 64 → rec'.length ≤ 64) := by
  unfold asPut at h
  split at h
  · cases h
  · cases h
    exact ⟨rfl, fun hl => by rw [List.length_append]; simp; omega⟩
theorem sim_level (N c rep d : Nat) (there : Bool) (hc : c < N) : Sim N (fun st => asLevel st c rep d there) (fun st => sdLevel st c rep d there) := by
  intro lf rec lf' rec' hN h
  unfold asLevel at h
  cases hl : lf.getD c [] with
  | nil => simp only [hl] at h; cases h
  | cons x t =>
    simp only [hl] at h
    cases there with
    | false =>
      simp only [Bool.false_eq_true, if_false, Option.bind_some] at h
      split at h
      · cases h
        rename_i e
        refine ⟨[], at1 c x, by simp, cons_set lf c x t (by omega) hl, fun h => h, fun tail cols hcl => ⟨push cols c ((rep : Int), (d : Int), 0), rfl, ?_⟩⟩
        rw [e]; exact ext_push _ _ _ (by omega)
      · cases h
    | true =>
      simp only [if_true] at h
      cases hp : asPut rec x.2.2 with
      | none => rw [hp] at h; cases h
      | some r1 =>
        rw [hp] at h
        simp only [Option.bind_some] at h
        split at h
        · cases h
          rename_i e
          obtain ⟨e1, b1⟩ := asPut_some hp
          refine ⟨[x.2.2], at1 c x, e1, cons_set lf c x t (by omega) hl, b1, fun tail cols hcl => ⟨push cols c ((rep : Int), (d : Int), x.2.2), rfl, ?_⟩⟩
          have : ((rep : Int), (d : Int), x.2.2) = x := e.symm
          rw [this]; exact ext_push _ _ _ (by omega)
        · cases h
theorem sim_nulls (N rep d : Nat) : ∀ (m c : Nat), c + m ≤ N → Sim N (nulls asLevel m c rep d) (nulls sdLevel m c rep d)
  | 0, c, h => sim_id N
  | m + 1, c, h => sim_comp (sim_level N c rep d false (by omega)) (sim_nulls N rep d m (c + 1) (by omega))
theorem sim_times (N : Nat) (f : Nat → As → Option As) (g : Nat → Sd → Option Sd) (h : ∀ rp, Sim N (f rp) (g rp)) : ∀ (n rep rep' : Nat), Sim N (times f n rep rep') (times g n rep rep')
  | 0, _, _ => sim_id N
  | n + 1, rep, rep' => sim_comp (h rep) (sim_times N f g h n rep' rep')
theorem seen_one {lf : List (List Lv)} {r D P c m : Nat} (h : asSeen lf r D P c = some m) : ¬ (r = 1 ∧ 1 < m) := by
  unfold asSeen at h
  split at h
  · cases h
  · rintro ⟨h1, h2⟩
    split at h
    · cases h; omega
    · rename_i hz
      cases h
      omega
theorem sim_often (N r D P c : Nat) (f : Nat → As → Option As) (g : Nat → Sd → Option Sd) (h : ∀ m, Sim N (f m) (g m)) :
    Sim N (fun st => (asOften st r D P c).bind fun x => f x.1 x.2) (fun st => (sdOften st r D P c).bind fun x => g x.1 x.2) := by
  intro lf rec lf' rec' hN hf
  unfold asOften at hf
  cases hs : asSeen lf r D P c with
  | none => simp only [hs] at hf; cases hf
  | some m =>
    simp only [hs, Option.bind_some] at hf
    cases hp : asPut rec m with
    | none => rw [hp] at hf; cases hf
    | some r1 =>
      rw [hp] at hf
      simp only [Option.map_some, Option.bind_some] at hf
      obtain ⟨e1, b1⟩ := asPut_some hp
      obtain ⟨n2, D2, e2, c2, b2, g2⟩ := h m lf r1 lf' rec' hN hf
      refine ⟨m :: n2, D2, by rw [e2, e1]; simp, c2, fun h => b2 (b1 h), fun tail cols hc => ?_⟩
      obtain ⟨x, h1, y⟩ := g2 tail cols hc
      refine ⟨x, ?_, y⟩
      have : sdOften (m :: n2 ++ tail, cols) r D P c = some (m, (n2 ++ tail, cols)) := by
        show (if r = 1 ∧ 1 < m then none else some (m, (n2 ++ tail, cols))) = _
        rw [if_neg (seen_one hs)]
      simp only [this, Option.bind_some, h1]
theorem sim_al (N : Nat) : ∀ (F : F) (d p c rep : Nat), c + leaves F ≤ N → Sim N (al asW F d p c rep) (al sdW F d p c rep)
  | .nil, d, p, c, rep, h => sim_id N
  | .cons r k s, d, p, c, rep, h => by
    rw [leaves_cons] at h
    have hk : ∀ rp, Sim N (al asW k (dn r d) (rn r p) c rp) (al sdW k (dn r d) (rn r p) c rp) := fun rp => sim_al N k _ _ _ _ (by
      cases k with
      | nil => simp only [leaves]; omega
      | cons r' k' s' =>
        have : lv1 (.cons r' k' s') = leaves (.cons r' k' s') := rfl
        omega)
    have hc : c < N := by
      have : 0 < lv1 k := lv1_pos k
      omega
    have hb : ∀ rp, Sim N (body asW k (dn r d) (rn r p) c rp) (body sdW k (dn r d) (rn r p) c rp) := fun rp => by
      unfold body
      by_cases hn : isNil k = true
      · simp only [if_pos hn]
        exact sim_comp (sim_level N c rp (dn r d) true hc) (hk rp)
      · simp only [if_neg hn]
        exact sim_comp (sim_id N) (hk rp)
    have ht : ∀ m, Sim N (fun st => (if m = 0 then nulls asLevel (lv1 k) c rep d st else some st).bind (times (body asW k (dn r d) (rn r p) c) m rep (rn r p)))
        (fun st => (if m = 0 then nulls sdLevel (lv1 k) c rep d st else some st).bind (times (body sdW k (dn r d) (rn r p) c) m rep (rn r p))) := fun m => by
      by_cases hm : m = 0
      · simp only [if_pos hm]
        exact sim_comp (sim_nulls N rep d (lv1 k) c (by omega)) (sim_times N _ _ hb m rep (rn r p))
      · simp only [if_neg hm]
        exact sim_comp (sim_id N) (sim_times N _ _ hb m rep (rn r p))
    have h1 : Sim N (al1 asW r k d p c rep) (al1 sdW r k d p c rep) := by
      unfold al1
      by_cases h0 : r = 0
      · simp only [if_pos h0, Option.bind_some]
        exact ht 1
      · simp only [if_neg h0]
        exact sim_often N r (dn r d) (rn r p) c _ _ ht
    exact sim_comp h1 (sim_al N s d p (c + lv1 k) rep (by omega))
end Go.Proofs.Ytjfkoledbegpfaa.Sh
/- Plain: records of columns have just these columns. -/
namespace Go.Proofs.Ytjfkoledbegpfaa.Sh
set_option linter.unusedVariables false

theorem bind_id {σ : Type} (x : Option σ) : x.bind some = x := by cases x <;> rfl
theorem al_one {σ : Type} (W : Wk σ) (k : F) (st : σ) : al W (.cons 0 k .nil) 0 0 0 0 st = al1 W 0 k 0 0 0 0 st := by
  rw [al_cons]
  show (al1 W 0 k 0 0 0 0 st).bind (fun st => some st) = _
  exact bind_id _
theorem leaves_one (k : F) : leaves (.cons 0 k .nil) = lv1 k := by rw [leaves_cons]; rfl
theorem sim_one (k : F) : Sim (lv1 k) (al1 asW 0 k 0 0 0 0) (al1 sdW 0 k 0 0 0 0) := by
  have h := sim_al (lv1 k) (.cons 0 k .nil) 0 0 0 0 (by rw [leaves_one]; omega)
  intro lf rec lf' rec' hN hf
  obtain ⟨nums, D, e, c, b, g⟩ := h lf rec lf' rec' hN (by rw [al_one]; exact hf)
  refine ⟨nums, D, e, c, b, fun tail cols hc => ?_⟩
  obtain ⟨x, h1, h2⟩ := g tail cols hc
  exact ⟨x, by rw [← al_one]; exact h1, h2⟩
theorem asmR_only (k : F) : ∀ (n : Nat) (lf : List (List Lv)) (out : List (List Nat)) (lf' : List (List Lv)) (outs : List (List Nat)), lf.length = lv1 k → asmR k n lf out = some (lf', outs) →
    ∃ new D, outs = out ++ new ∧ new.length ≤ n ∧ Cons lf lf' D ∧ ∀ c, c.length = lv1 k → ∃ c', recsS k new c = .ok c' ∧ Ext c c' D
  | 0, lf, out, lf', outs, hN, h => by
    unfold asmR at h
    split at h
    · cases h
      exact ⟨[], fun _ => [], by simp, Nat.le_refl _, Cons.refl _, fun c _ => ⟨c, rfl, Ext.refl _⟩⟩
    · cases h
  | n + 1, lf, out, lf', outs, hN, h => by
    unfold asmR at h
    split at h
    · cases h
      exact ⟨[], fun _ => [], by simp, Nat.zero_le _, Cons.refl _, fun c _ => ⟨c, rfl, Ext.refl _⟩⟩
    · cases hx : al1 asW 0 k 0 0 0 0 (lf, []) with
      | none => rw [hx] at h; cases h
      | some st =>
        obtain ⟨l1, r1⟩ := st
        rw [hx] at h
        simp only [Option.bind_some] at h
        obtain ⟨nums, D1, e1, c1, b1, g1⟩ := sim_one k lf [] l1 r1 hN hx
        obtain ⟨new, D2, e2, l2, c2, g2⟩ := asmR_only k n l1 (out ++ [r1]) lf' outs (c1.1.trans hN) h
        refine ⟨r1 :: new, fun i => D1 i ++ D2 i, by rw [e2]; simp, by simp; omega, c1.trans c2, fun c hc => ?_⟩
        obtain ⟨x1, h1, y1⟩ := g1 [] c hc
        obtain ⟨x2, h2, y2⟩ := g2 x1 (y1.1.trans hc)
        refine ⟨x2, ?_, y1.trans y2⟩
        have hr : recS k r1 c = .ok x1 := by
          unfold recS
          have hl := b1 (by simp)
          rw [if_neg (by omega)]
          rw [List.nil_append] at e1
          rw [e1]
          rw [List.append_nil] at h1
          rw [h1]; rfl
        unfold recsS
        rw [hr]; exact h2
theorem cols_eq {a b : List (List Lv)} (hl : a.length = b.length) (h : ∀ i, a.getD i [] = b.getD i []) : a = b := by
  apply List.ext_getElem hl
  intro i h1 h2
  have := h i
  simpa [List.getD, List.getElem?_eq_getElem h1, List.getElem?_eq_getElem h2] using this
theorem rep_get (n i : Nat) : (List.replicate n ([] : List Lv)).getD i [] = [] := by
  by_cases h : i < n
  · simp [List.getD, h]
  · simp [List.getD, h]
/-- what is assembled is shredded as it was -/
theorem only (l : List Fd) (cols : List (List Lv)) (outs : List (List Nat)) (h : asmbl l cols = .ok outs) : shR l outs = .ok cols := by
  unfold asmbl at h
  split at h
  · cases h
  · rename_i h0
    split at h
    · cases h
    · rename_i h1
      cases ha : asR (formK l) cols with
      | none => rw [ha] at h; cases h
      | some o =>
        rw [ha] at h
        cases h
        unfold asR at ha
        cases hm : asmR (formK l) 8 cols [] with
        | none => rw [hm] at ha; cases ha
        | some x =>
          obtain ⟨lf', o'⟩ := x
          rw [hm] at ha
          simp only [Option.bind_some] at ha
          split at ha
          · rename_i hall
            cases ha
            obtain ⟨new, D, e, hl, hc, hg⟩ := asmR_only (formK l) 8 cols [] lf' outs (by omega) hm
            rw [List.nil_append] at e
            subst e
            obtain ⟨c', hr, hE⟩ := hg (List.replicate (lv1 (formK l)) []) List.length_replicate
            unfold shR
            rw [if_neg h0, if_neg (by omega), hr]
            congr 1
            refine cols_eq (by rw [hE.1, List.length_replicate]; omega) (fun i => ?_)
            rw [hE.2, rep_get, List.nil_append, hc.2]
            have : lf'.getD i [] = [] := by
              by_cases hi : i < lf'.length
              · have h2 := hall lf'[i] (List.getElem_mem _)
                simpa [List.getD, List.getElem?_eq_getElem hi] using h2
              · simp [List.getD, List.getElem?_eq_none (show lf'.length ≤ i by omega)]
            rw [this, List.append_nil]
          · cases ha
end Go.Proofs.Ytjfkoledbegpfaa.Sh
/- Plain: what is shredded is assembled as it was. -/
namespace Go.Proofs.Ytjfkoledbegpfaa.Sh
set_option linter.unusedVariables false

/-- what follows begins no deeper -/
def Hd (p : Nat) (rest : List Lv) : Prop := ∀ y t, rest = y :: t → y.1 ≤ (p : Int)
theorem Hd.mono {p q : Nat} {l : List Lv} (h : Hd p l) (hq : p ≤ q) : Hd q l := fun y t e => by have := h y t e; omega
/-- a column of what is there once: its first level says rep, all others are deeper -/
def Colm (p ρ d : Nat) (l : List Lv) : Prop := ∃ x xs, l = x :: xs ∧ x.1 = (ρ : Int) ∧ (∀ y ∈ xs, (p : Int) < y.1) ∧ (∀ y ∈ l, (d : Int) ≤ y.2.1)
/-- so many times -/
def Blk (P d : Nat) : Nat → Nat → List Lv → Prop
  | _, 0, l => l = []
  | ρ, n + 1, l => ∃ a b, l = a ++ b ∧ Colm P ρ d a ∧ Blk P d P n b
theorem blk_hd {P d : Nat} : ∀ {n : Nat} {l rest : List Lv} {p : Nat}, Blk P d P n l → p ≤ P → Hd p rest → Hd P (l ++ rest)
  | 0, l, rest, p, h, hp, hr => by
    rw [show l = [] from h, List.nil_append]; exact hr.mono hp
  | n + 1, l, rest, p, h, hp, hr => by
    obtain ⟨a, b, e, ⟨x, xs, e2, e3, -, -⟩, -⟩ := h
    subst e e2
    intro y t e4
    simp only [List.cons_append] at e4
    injection e4 with e5 e6
    rw [← e5, e3]; exact Int.le_refl _
theorem blk_deep {P d : Nat} : ∀ {n : Nat} {l : List Lv} {p : Nat}, Blk P d P n l → (p < P ∨ n = 0) → ∀ y ∈ l, (p : Int) < y.1 ∧ (d : Int) ≤ y.2.1
  | 0, l, p, h, hp, y, hy => by rw [show l = [] from h] at hy; cases hy
  | n + 1, l, p, h, hp, y, hy => by
    have hp : p < P := by rcases hp with h | h; exact h; omega
    obtain ⟨a, b, e, ⟨x, xs, e2, e3, e4, e5⟩, hb⟩ := h
    subst e
    rcases List.mem_append.1 hy with hy | hy
    · refine ⟨?_, e5 y hy⟩
      subst e2
      rcases List.mem_cons.1 hy with rfl | hy
      · omega
      · have := e4 y hy; omega
    · exact blk_deep hb (Or.inl hp) y hy
theorem blk_colm {P d D p ρ n : Nat} {l : List Lv} (h : Blk P D ρ (n + 1) l) (hp : p ≤ P) (hn : p < P ∨ n = 0) (hd : d ≤ D) : Colm p ρ d l := by
  obtain ⟨a, b, e, ⟨x, xs, e2, e3, e4, e5⟩, hb⟩ := h
  subst e e2
  refine ⟨x, xs ++ b, rfl, e3, fun y hy => ?_, fun y hy => ?_⟩
  · rcases List.mem_append.1 hy with hy | hy
    · have := e4 y hy; omega
    · exact (blk_deep hb hn y hy).1
  · rw [List.cons_append] at hy
    rcases List.mem_cons.1 hy with rfl | hy
    · have := e5 y (List.mem_cons_self ..); omega
    · rcases List.mem_append.1 hy with hy | hy
      · have := e5 y (List.mem_cons_of_mem _ hy); omega
      · have := (blk_deep hb hn y hy).2; omega
theorem again_deep (P : Nat) : ∀ (xs l : List Lv), (∀ y ∈ xs, (P : Int) < y.1) → again (P : Int) (xs ++ l) = again (P : Int) l
  | [], l, h => rfl
  | x :: xs, l, h => by
    have h1 := h x (List.mem_cons_self ..)
    show (if x.1 < (P : Int) then 0 else (if x.1 = (P : Int) then 1 else 0) + again (P : Int) (xs ++ l)) = _
    rw [if_neg (by omega), if_neg (by omega), again_deep P xs l (fun y hy => h y (List.mem_cons_of_mem _ hy)), Nat.zero_add]
theorem again_blk (P d : Nat) : ∀ (n : Nat) (l rest : List Lv), Blk P d P n l → again (P : Int) rest = 0 → again (P : Int) (l ++ rest) = n
  | 0, l, rest, h, hr => by rw [show l = [] from h, List.nil_append, hr]
  | n + 1, l, rest, h, hr => by
    obtain ⟨a, b, e, ⟨x, xs, e2, e3, e4, e5⟩, hb⟩ := h
    subst e e2
    have h1 := again_blk P d n b rest hb hr
    show again (P : Int) (x :: ((xs ++ b) ++ rest)) = _
    show (if x.1 < (P : Int) then 0 else (if x.1 = (P : Int) then 1 else 0) + again (P : Int) ((xs ++ b) ++ rest)) = _
    rw [if_neg (by omega), if_pos e3, List.append_assoc, again_deep P xs _ e4, h1, Nat.add_comm]
theorem again_hd {p P : Nat} {rest : List Lv} (h : Hd p rest) (hp : p < P) : again (P : Int) rest = 0 := by
  cases rest with
  | nil => rfl
  | cons y t =>
    have := h y t rfl
    show (if y.1 < (P : Int) then 0 else _) = 0
    rw [if_pos (by omega)]

/-- what is shredded by g (in columns from c on, so many) is assembled by f as it was -/
def BK (N c m : Nat) (Q : List Lv → Prop) (p : Nat) (g : Sd → Option Sd) (f : As → Option As) : Prop :=
  ∀ ls cols ls' cols', cols.length = N → g (ls, cols) = some (ls', cols') → ∃ nums D, ls = nums ++ ls' ∧ Ext cols cols' D ∧ (∀ i, c ≤ i → i < c + m → Q (D i)) ∧ (∀ i, ¬ (c ≤ i ∧ i < c + m) → D i = []) ∧
    (∀ cols2, cols2.length = N → ∃ cols2', g (ls, cols2) = some (ls', cols2') ∧ Ext cols2 cols2' D) ∧
    ∀ lf rec, lf.length = N → rec.length + nums.length ≤ 64 → (∀ i, ∃ rest, lf.getD i [] = D i ++ rest ∧ (c ≤ i → i < c + m → Hd p rest)) → ∃ lf', f (lf, rec) = some (lf', rec ++ nums) ∧ Cons lf lf' D
theorem bk_id (N c m : Nat) (Q : List Lv → Prop) (p : Nat) (hQ : m = 0 ∨ Q []) : BK N c m Q p some some := by
  intro ls cols ls' cols' hN h
  cases h
  exact ⟨[], fun _ => [], rfl, Ext.refl _, fun i h1 h2 => by rcases hQ with h | h; omega; exact h, fun _ _ => rfl, fun cols2 _ => ⟨cols2, rfl, Ext.refl _⟩, fun lf rec _ _ _ => ⟨lf, by simp, Cons.refl _⟩⟩
theorem BK.weaken {N c m p : Nat} {Q Q' : List Lv → Prop} {g : Sd → Option Sd} {f : As → Option As} (h : BK N c m Q p g f) (hQ : ∀ l, Q l → Q' l) : BK N c m Q' p g f := by
  intro ls cols ls' cols' hN hg
  obtain ⟨nums, D, h1, h2, h3, h4⟩ := h ls cols ls' cols' hN hg
  exact ⟨nums, D, h1, h2, fun i a b => hQ _ (h3 i a b), h4⟩
/-- one behind the other, in other columns -/
theorem BK.side {N c m1 m2 p : Nat} {Q : List Lv → Prop} {g g' : Sd → Option Sd} {f f' : As → Option As} (h : BK N c m1 Q p g f) (k : BK N (c + m1) m2 Q p g' f') : BK N c (m1 + m2) Q p (fun st => (g st).bind g') (fun st => (f st).bind f') := by
  intro ls cols ls' cols' hN hg
  cases hx : g (ls, cols) with
  | none => simp only [hx] at hg; cases hg
  | some st =>
    obtain ⟨l1, c1⟩ := st
    simp only [hx, Option.bind_some] at hg
    obtain ⟨n1, D1, e1, E1, q1, z1, p1, b1⟩ := h ls cols l1 c1 hN hx
    obtain ⟨n2, D2, e2, E2, q2, z2, p2, b2⟩ := k l1 c1 ls' cols' (E1.1.trans hN) hg
    refine ⟨n1 ++ n2, fun i => D1 i ++ D2 i, by rw [e1, e2, List.append_assoc], E1.trans E2, fun i h1 h2 => ?_, fun i hi => ?_, fun cols2 h2 => ?_, fun lf rec hl hr hc => ?_⟩
    · by_cases hi : i < c + m1
      · show Q (D1 i ++ D2 i)
        rw [z2 i (by omega), List.append_nil]; exact q1 i h1 hi
      · show Q (D1 i ++ D2 i)
        rw [z1 i (by omega), List.nil_append]; exact q2 i (by omega) (by omega)
    · show D1 i ++ D2 i = []
      rw [z1 i (by omega), z2 i (by omega)]; rfl
    · obtain ⟨x1, a1, y1⟩ := p1 cols2 h2
      obtain ⟨x2, a2, y2⟩ := p2 x1 (y1.1.trans h2)
      exact ⟨x2, by simp only [a1, Option.bind_some, a2], y1.trans y2⟩
    · rw [List.length_append] at hr
      obtain ⟨lf1, a1, y1⟩ := b1 lf rec hl (by omega) (fun i => by
        obtain ⟨rest, r1, r2⟩ := hc i
        refine ⟨D2 i ++ rest, by rw [r1, List.append_assoc], fun h1 h2 => ?_⟩
        rw [z2 i (by omega), List.nil_append]; exact r2 h1 (by omega))
      obtain ⟨lf2, a2, y2⟩ := b2 lf1 (rec ++ n1) (y1.1.trans hl) (by rw [List.length_append]; omega) (fun i => by
        obtain ⟨rest, r1, r2⟩ := hc i
        refine ⟨rest, ?_, fun h1 h2 => r2 (by omega) (by omega)⟩
        have := y1.2 i
        rw [r1, List.append_assoc] at this
        exact (List.append_cancel_left this).symm)
      exact ⟨lf2, by simp only [a1, Option.bind_some, a2, List.append_assoc], y1.trans y2⟩
/-- so many times, in the same columns -/
theorem bk_times (N c m P p d : Nat) (hp : p ≤ P) (g : Nat → Sd → Option Sd) (f : Nat → As → Option As) (h : ∀ ρ, BK N c m (Colm P ρ d) P (g ρ) (f ρ)) :
    ∀ (n ρ : Nat), BK N c m (Blk P d ρ n) p (times g n ρ P) (times f n ρ P)
  | 0, ρ => bk_id N c m _ p (Or.inr rfl)
  | n + 1, ρ => by
    have k := bk_times N c m P p d hp g f h n P
    intro ls cols ls' cols' hN hg
    change (g ρ (ls, cols)).bind (times g n P P) = _ at hg
    cases hx : g ρ (ls, cols) with
    | none => rw [hx] at hg; cases hg
    | some st =>
      obtain ⟨l1, c1⟩ := st
      rw [hx] at hg
      simp only [Option.bind_some] at hg
      obtain ⟨n1, D1, e1, E1, q1, z1, p1, b1⟩ := h ρ ls cols l1 c1 hN hx
      obtain ⟨n2, D2, e2, E2, q2, z2, p2, b2⟩ := k l1 c1 ls' cols' (E1.1.trans hN) hg
      refine ⟨n1 ++ n2, fun i => D1 i ++ D2 i, by rw [e1, e2, List.append_assoc], E1.trans E2, fun i h1 h2 => ⟨D1 i, D2 i, rfl, q1 i h1 h2, q2 i h1 h2⟩, fun i hi => ?_, fun cols2 h2 => ?_, fun lf rec hl hr hc => ?_⟩
      · show D1 i ++ D2 i = []
        rw [z1 i hi, z2 i hi]; rfl
      · obtain ⟨x1, a1, y1⟩ := p1 cols2 h2
        obtain ⟨x2, a2, y2⟩ := p2 x1 (y1.1.trans h2)
        refine ⟨x2, ?_, y1.trans y2⟩
        show (g ρ (ls, cols2)).bind (times g n P P) = _
        rw [a1]; exact a2
      · rw [List.length_append] at hr
        obtain ⟨lf1, a1, y1⟩ := b1 lf rec hl (by omega) (fun i => by
          obtain ⟨rest, r1, r2⟩ := hc i
          refine ⟨D2 i ++ rest, by rw [r1, List.append_assoc], fun h1 h2 => blk_hd (q2 i h1 h2) hp (r2 h1 h2)⟩)
        obtain ⟨lf2, a2, y2⟩ := b2 lf1 (rec ++ n1) (y1.1.trans hl) (by rw [List.length_append]; omega) (fun i => by
          obtain ⟨rest, r1, r2⟩ := hc i
          refine ⟨rest, ?_, r2⟩
          have := y1.2 i
          rw [r1, List.append_assoc] at this
          exact (List.append_cancel_left this).symm)
        refine ⟨lf2, ?_, y1.trans y2⟩
        show (f ρ (lf, rec)).bind (times f n P P) = _
        rw [a1]; simp only [Option.bind_some, a2, List.append_assoc]
theorem asPut_ok {rec : List Nat} {n : Nat} (h : rec.length + 1 ≤ 64) : asPut rec n = some (rec ++ [n]) := by unfold asPut; rw [if_neg (by omega)]
theorem bk_level (N c ρ d P p : Nat) (there : Bool) (hc : c < N) : BK N c 1 (Colm P ρ d) p (fun st => sdLevel st c ρ d there) (fun st => asLevel st c ρ d there) := by
  have key : ∀ (n : Nat) (lf : List (List Lv)) (rest : List Lv), lf.length = N → lf.getD c [] = at1 c ((ρ : Int), (d : Int), n) c ++ rest → Cons lf (lf.set c rest) (at1 c ((ρ : Int), (d : Int), n)) ∧ lf.getD c [] = ((ρ : Int), (d : Int), n) :: rest := by
    intro n lf rest hl h
    have e : at1 c ((ρ : Int), (d : Int), n) c = [((ρ : Int), (d : Int), n)] := by unfold at1; rw [if_pos rfl]
    rw [e] at h
    exact ⟨cons_set lf c _ rest (by omega) h, h⟩
  have hq : ∀ (n : Nat) i, c ≤ i → i < c + 1 → Colm P ρ d (at1 c ((ρ : Int), (d : Int), n) i) := by
    intro n i h1 h2
    obtain rfl : i = c := by omega
    unfold at1
    rw [if_pos rfl]
    exact ⟨_, [], rfl, rfl, (fun y hy => (by cases hy)), (fun y hy => (by simp at hy; rw [hy]; exact Int.le_refl _))⟩
  have hz : ∀ (n : Nat) i, ¬ (c ≤ i ∧ i < c + 1) → at1 c ((ρ : Int), (d : Int), n) i = [] := by
    intro n i h
    unfold at1
    rw [if_neg (by omega)]
  intro ls cols ls' cols' hN hg
  cases there with
  | false =>
    cases hg
    refine ⟨[], at1 c ((ρ : Int), (d : Int), 0), rfl, ext_push _ _ _ (by omega), hq 0, hz 0, fun cols2 h2 => ⟨_, rfl, ext_push _ _ _ (by omega)⟩, fun lf rec hl hr hcc => ?_⟩
    obtain ⟨rest, r1, -⟩ := hcc c
    obtain ⟨k1, k2⟩ := key 0 lf rest hl r1
    refine ⟨lf.set c rest, ?_, k1⟩
    unfold asLevel
    simp only [k2]
    simp
  | true =>
    cases ls with
    | nil => cases hg
    | cons n t =>
      cases hg
      refine ⟨[n], at1 c ((ρ : Int), (d : Int), n), rfl, ext_push _ _ _ (by omega), hq n, hz n, fun cols2 h2 => ⟨_, rfl, ext_push _ _ _ (by omega)⟩, fun lf rec hl hr hcc => ?_⟩
      obtain ⟨rest, r1, -⟩ := hcc c
      obtain ⟨k1, k2⟩ := key n lf rest hl r1
      refine ⟨lf.set c rest, ?_, k1⟩
      unfold asLevel
      simp only [k2]
      simp [asPut_ok (n := n) (show rec.length + 1 ≤ 64 by simpa using hr)]
theorem bk_nulls (N ρ d P p : Nat) : ∀ (m c : Nat), c + m ≤ N → BK N c m (Colm P ρ d) p (nulls sdLevel m c ρ d) (nulls asLevel m c ρ d)
  | 0, c, h => bk_id N c 0 _ p (Or.inl rfl)
  | m + 1, c, h => by
    have h1 := BK.side (bk_level N c ρ d P p false (by omega)) (bk_nulls N ρ d P p m (c + 1) (by omega))
    rw [show 1 + m = m + 1 by omega] at h1
    exact h1

theorem seen_zero {lf : List (List Lv)} {r D P c : Nat} {x : Lv} {t : List Lv} (h : lf.getD c [] = x :: t) (hx : x.2.1 < (D : Int)) : asSeen lf r D P c = some 0 := by
  unfold asSeen
  simp only [h]
  rw [if_pos hx]
/-- a field that need not be there -/
theorem bk_often (N r k_ c d p ρ : Nat) (hr : r = 1 ∨ r = 2) (hm : 0 < k_) (hc : c + k_ ≤ N) (g : Nat → Sd → Option Sd) (f : Nat → As → Option As)
    (h0 : BK N c k_ (Colm p ρ d) p (g 0) (f 0)) (h0d : ∀ ls cols st, cols.length = N → g 0 (ls, cols) = some st → ∀ D, Ext cols st.2 D → ∃ n, D c = [((ρ : Int), (d : Int), n)])
    (h : ∀ n, BK N c k_ (Blk (rn r p) (d + 1) ρ (n + 1)) p (g (n + 1)) (f (n + 1))) :
    BK N c k_ (Colm p ρ d) p (fun st => (sdOften st r (d + 1) (rn r p) c).bind fun x => g x.1 x.2) (fun st => (asOften st r (d + 1) (rn r p) c).bind fun x => f x.1 x.2) := by
  have hpP : p ≤ rn r p := by unfold rn; split <;> omega
  intro ls cols ls' cols' hN hg
  cases ls with
  | nil => cases hg
  | cons m t =>
    have hs : sdOften (m :: t, cols) r (d + 1) (rn r p) c = if r = 1 ∧ 1 < m then none else some (m, (t, cols)) := rfl
    simp only [hs] at hg
    by_cases hbad : r = 1 ∧ 1 < m
    · rw [if_pos hbad] at hg; cases hg
    rw [if_neg hbad] at hg
    simp only [Option.bind_some] at hg
    have hs2 : ∀ cols2, sdOften (m :: t, cols2) r (d + 1) (rn r p) c = some (m, (t, cols2)) := fun cols2 => by
      show (if r = 1 ∧ 1 < m then none else some (m, (t, cols2))) = _
      rw [if_neg hbad]
    cases m with
    | zero =>
      obtain ⟨nums, D, e1, E1, q1, z1, p1, b1⟩ := h0 t cols ls' cols' hN hg
      obtain ⟨n0, hn0⟩ := h0d t cols (ls', cols') hN hg D E1
      refine ⟨0 :: nums, D, by rw [e1]; rfl, E1, q1, z1, fun cols2 h2 => ?_, fun lf rec hl hrr hcc => ?_⟩
      · obtain ⟨x, a1, y1⟩ := p1 cols2 h2
        exact ⟨x, by simp only [hs2, Option.bind_some, a1], y1⟩
      · rw [List.length_cons] at hrr
        obtain ⟨lf', a1, y1⟩ := b1 lf (rec ++ [0]) hl (by rw [List.length_append]; simp; omega) hcc
        refine ⟨lf', ?_, y1⟩
        obtain ⟨rest, r1, -⟩ := hcc c
        rw [hn0] at r1
        have hse : asSeen lf r (d + 1) (rn r p) c = some 0 := seen_zero (x := ((ρ : Int), (d : Int), n0)) (t := rest) (by rw [r1]; rfl) (by show (d : Int) < ((d + 1 : Nat) : Int); omega)
        unfold asOften
        simp only [hse, Option.bind_some, asPut_ok (show rec.length + 1 ≤ 64 by omega), Option.map_some, a1, List.append_assoc]
        rfl
    | succ m =>
      obtain ⟨nums, D, e1, E1, q1, z1, p1, b1⟩ := h m t cols ls' cols' hN hg
      have hmp : p < rn r p ∨ m = 0 := by
        rcases hr with h1 | h2
        · right
          have : ¬ 1 < m + 1 := fun h => hbad ⟨h1, h⟩
          omega
        · left; unfold rn; rw [if_pos h2]; omega
      refine ⟨(m + 1) :: nums, D, by rw [e1]; rfl, E1, fun i a b => blk_colm (q1 i a b) hpP hmp (by omega), z1, fun cols2 h2 => ?_, fun lf rec hl hrr hcc => ?_⟩
      · obtain ⟨x, a1, y1⟩ := p1 cols2 h2
        exact ⟨x, by simp only [hs2, Option.bind_some, a1], y1⟩
      · rw [List.length_cons] at hrr
        obtain ⟨lf', a1, y1⟩ := b1 lf (rec ++ [m + 1]) hl (by rw [List.length_append]; simp; omega) hcc
        refine ⟨lf', ?_, y1⟩
        obtain ⟨rest, r1, r2⟩ := hcc c
        obtain ⟨a, b, eD, ⟨x, xs, ea, ex, exs, ed⟩, hb⟩ := q1 c (Nat.le_refl _) (by omega)
        have hlf : lf.getD c [] = x :: (xs ++ (b ++ rest)) := by rw [r1, eD, ea]; simp
        have hdx := ed x (by rw [ea]; exact List.mem_cons_self ..)
        have hse : asSeen lf r (d + 1) (rn r p) c = some (m + 1) := by
          unfold asSeen
          simp only [hlf]
          rw [if_neg (by omega)]
          rcases hr with h1 | h2
          · rw [if_pos h1]
            have : ¬ 1 < m + 1 := fun h => hbad ⟨h1, h⟩
            congr 1; omega
          · rw [if_neg (by omega)]
            have hP : rn r p = p + 1 := by unfold rn; rw [if_pos h2]
            have ha : again ((rn r p : Nat) : Int) (b ++ rest) = m := again_blk _ _ m b rest hb (again_hd (r2 (Nat.le_refl _) (by omega)) (by omega))
            rw [again_deep _ xs _ exs, ha]
            congr 1; omega
        unfold asOften
        simp only [hse, Option.bind_some, asPut_ok (show rec.length + 1 ≤ 64 by omega), Option.map_some, a1, List.append_assoc]
        rfl
theorem nulls_at (ρ d : Nat) : ∀ (m c : Nat) (ls : List Nat) (cols : List (List Lv)) (st : Sd), c + m ≤ cols.length → nulls sdLevel m c ρ d (ls, cols) = some st → 0 < m → st.2.getD c [] = cols.getD c [] ++ [((ρ : Int), (d : Int), 0)]
  | 0, c, ls, cols, st, hc, h, h0 => absurd h0 (Nat.lt_irrefl _)
  | m + 1, c, ls, cols, st, hc, h, h0 => by
    have key : ∀ (m c' : Nat) (cols : List (List Lv)) (st : Sd), c < c' → c' + m ≤ cols.length → nulls sdLevel m c' ρ d (ls, cols) = some st → st.2.getD c [] = cols.getD c [] := by
      intro m
      induction m with
      | zero => intro c' cols st _ _ h; cases h; rfl
      | succ m ih =>
        intro c' cols st h1 h2 h3
        have h4 : nulls sdLevel m (c' + 1) ρ d (ls, push cols c' ((ρ : Int), (d : Int), 0)) = some st := h3
        have := ih (c' + 1) _ st (by omega) (by rw [push_length]; omega) h4
        rw [this, push_get _ _ _ (by omega), if_neg (by omega)]
    have h4 : nulls sdLevel m (c + 1) ρ d (ls, push cols c ((ρ : Int), (d : Int), 0)) = some st := h
    rw [key m (c + 1) _ st (by omega) (by rw [push_length]; omega) h4, push_get _ _ _ (by omega), if_pos rfl]
theorem bk_ext {N c m p : Nat} {Q : List Lv → Prop} {g g' : Sd → Option Sd} {f f' : As → Option As} (h : BK N c m Q p g f) (hg : ∀ st, g' st = g st) (hf : ∀ st, f' st = f st) : BK N c m Q p g' f' := by
  have e1 : g' = g := funext hg
  have e2 : f' = f := funext hf
  rw [e1, e2]; exact h
/-- fields side by side -/
theorem bk_al (N : Nat) : ∀ (F : F) (d p c rep : Nat), ok F → c + leaves F ≤ N → BK N c (leaves F) (Colm p rep d) p (al sdW F d p c rep) (al asW F d p c rep)
  | .nil, d, p, c, rep, ho, h => bk_id N c 0 _ p (Or.inl rfl)
  | .cons r k s, d, p, c, rep, ho, h => by
    rw [leaves_cons] at h ⊢
    have hl0 : 0 < lv1 k := lv1_pos k
    have hb : ∀ ρ, BK N c (lv1 k) (Colm (rn r p) ρ (dn r d)) (rn r p) (body sdW k (dn r d) (rn r p) c ρ) (body asW k (dn r d) (rn r p) c ρ) := fun ρ => by
      cases k with
      | nil => exact bk_ext (bk_level N c ρ (dn r d) (rn r p) (rn r p) true (by omega)) (fun st => body_nil _ _ _ _ _ st) (fun st => body_nil _ _ _ _ _ st)
      | cons r' k' s' => exact bk_al N (.cons r' k' s') (dn r d) (rn r p) c ρ ho.2.2.1 (by
          have : lv1 (.cons r' k' s') = leaves (.cons r' k' s') := rfl
          omega)
    have hpP : p ≤ rn r p := by unfold rn; split <;> omega
    have ht : ∀ n ρ, BK N c (lv1 k) (Blk (rn r p) (dn r d) ρ n) p (times (body sdW k (dn r d) (rn r p) c) n ρ (rn r p)) (times (body asW k (dn r d) (rn r p) c) n ρ (rn r p)) := fun n ρ => bk_times N c (lv1 k) (rn r p) p (dn r d) hpP _ _ hb n ρ
    have h1 : BK N c (lv1 k) (Colm p rep d) p (al1 sdW r k d p c rep) (al1 asW r k d p c rep) := by
      by_cases h0 : r = 0
      · subst h0
        exact bk_ext ((ht 1 rep).weaken (fun l hl => blk_colm (n := 0) hl (Nat.le_refl _) (Or.inr rfl) (Nat.le_refl _))) (fun st => al1_req sdW k d p c rep st) (fun st => al1_req asW k d p c rep st)
      · have hr2 : r ≤ 2 := ho.1
        have hD : dn r d = d + 1 := by unfold dn; rw [if_neg h0]
        have hz : BK N c (lv1 k) (Colm p rep d) p (nulls sdLevel (lv1 k) c rep d) (nulls asLevel (lv1 k) c rep d) := bk_nulls N rep d p p (lv1 k) c (by omega)
        have hof := bk_often N r (lv1 k) c d p rep (by omega) hl0 (by omega)
          (fun m st => (if m = 0 then nulls sdLevel (lv1 k) c rep d st else some st).bind (times (body sdW k (dn r d) (rn r p) c) m rep (rn r p)))
          (fun m st => (if m = 0 then nulls asLevel (lv1 k) c rep d st else some st).bind (times (body asW k (dn r d) (rn r p) c) m rep (rn r p)))
          (bk_ext hz (fun st => by simp only [if_true]; exact bind_id _) (fun st => by simp only [if_true]; exact bind_id _))
          (fun ls cols st hN hg D hE => by
            have hg2 : nulls sdLevel (lv1 k) c rep d (ls, cols) = some st := by
              have h9 : (nulls sdLevel (lv1 k) c rep d (ls, cols)).bind some = some st := hg
              rw [bind_id] at h9; exact h9
            have h3 := nulls_at rep d (lv1 k) c ls cols st (by omega) hg2 hl0
            rw [hE.2] at h3
            exact ⟨0, List.append_cancel_left h3⟩)
          (fun n => by
            have h2 := ht (n + 1) rep
            rw [hD] at h2
            refine bk_ext h2 (fun st => ?_) (fun st => ?_)
            · simp only [Nat.succ_ne_zero, if_false, Option.bind_some]; rw [hD]
            · simp only [Nat.succ_ne_zero, if_false, Option.bind_some]; rw [hD])
        rw [← hD] at hof
        refine bk_ext hof (fun st => ?_) (fun st => ?_)
        · unfold al1; rw [if_neg h0]; rfl
        · unfold al1; rw [if_neg h0]; rfl
    exact BK.side h1 (bk_al N s d p (c + lv1 k) rep ho.2.2.2 (by omega))
end Go.Proofs.Ytjfkoledbegpfaa.Sh
/- Plain: records of their columns; how many begin; parts. -/
namespace Go.Proofs.Ytjfkoledbegpfaa.Sh
set_option linter.unusedVariables false

theorem bk_one (k : F) (ho : ok (.cons 0 k .nil)) : BK (lv1 k) 0 (lv1 k) (Colm 0 0 0) 0 (al1 sdW 0 k 0 0 0 0) (al1 asW 0 k 0 0 0 0) := by
  have h := bk_al (lv1 k) (.cons 0 k .nil) 0 0 0 0 ho (by rw [leaves_one]; omega)
  rw [leaves_one] at h
  exact bk_ext h (fun st => (al_one sdW k st).symm) (fun st => (al_one asW k st).symm)
theorem recS_ok {k : F} {r : List Nat} {cols cols' : List (List Lv)} (h : recS k r cols = .ok cols') : r.length ≤ 64 ∧ al1 sdW 0 k 0 0 0 0 (r, cols) = some ([], cols') := by
  unfold recS at h
  split at h
  · cases h
  · refine ⟨by omega, ?_⟩
    cases hx : al1 sdW 0 k 0 0 0 0 (r, cols) with
    | none => rw [hx] at h; cases h
    | some st =>
      obtain ⟨l, c⟩ := st
      rw [hx] at h
      cases l with
      | nil => cases h; rfl
      | cons a t => cases h
theorem recS_of {k : F} {r : List Nat} {cols cols' : List (List Lv)} (h1 : r.length ≤ 64) (h : al1 sdW 0 k 0 0 0 0 (r, cols) = some ([], cols')) : recS k r cols = .ok cols' := by
  unfold recS
  rw [if_neg (by omega), h]; rfl
theorem recs_spec (k : F) (ho : ok (.cons 0 k .nil)) : ∀ (rs : List (List Nat)) (cols cols' : List (List Lv)), cols.length = lv1 k → recsS k rs cols = .ok cols' →
    ∃ D, Ext cols cols' D ∧ (∀ i, i < lv1 k → Blk 0 0 0 rs.length (D i)) ∧ (∀ i, lv1 k ≤ i → D i = []) ∧
      (∀ cols2, cols2.length = lv1 k → ∃ cols2', recsS k rs cols2 = .ok cols2' ∧ Ext cols2 cols2' D) ∧
      ∀ (n : Nat) (lf : List (List Lv)) (out : List (List Nat)), rs.length ≤ n → lf.length = lv1 k → (∀ i, lf.getD i [] = D i) → ∃ lf', asmR k n lf out = some (lf', out ++ rs) ∧ Cons lf lf' D
  | [], cols, cols', hN, h => by
    cases h
    refine ⟨fun _ => [], Ext.refl _, fun i _ => rfl, fun _ _ => rfl, fun cols2 _ => ⟨cols2, rfl, Ext.refl _⟩, fun n lf out _ hl hd => ⟨lf, ?_, Cons.refl _⟩⟩
    have h0 := hd 0
    cases n with
    | zero => unfold asmR; rw [if_pos h0, List.append_nil]
    | succ n => unfold asmR; rw [if_pos h0, List.append_nil]
  | r :: t, cols, cols', hN, h => by
    unfold recsS at h
    cases hx : recS k r cols with
    | error e => rw [hx] at h; cases h
    | ok c1 =>
      rw [hx] at h
      obtain ⟨hr64, h1⟩ := recS_ok hx
      obtain ⟨nums, D1, e1, E1, q1, z1, p1, b1⟩ := bk_one k ho r cols [] c1 hN h1
      rw [List.append_nil] at e1
      subst e1
      obtain ⟨D2, E2, q2, z2, p2, b2⟩ := recs_spec k ho t c1 cols' (E1.1.trans hN) h
      refine ⟨fun i => D1 i ++ D2 i, E1.trans E2, fun i hi => ⟨D1 i, D2 i, rfl, q1 i (Nat.zero_le _) (by omega), q2 i hi⟩, fun i hi => ?_, fun cols2 h2 => ?_, fun n lf out hn hl hd => ?_⟩
      · show D1 i ++ D2 i = []
        rw [z1 i (by omega), z2 i hi]; rfl
      · obtain ⟨x1, a1, y1⟩ := p1 cols2 h2
        obtain ⟨x2, a2, y2⟩ := p2 x1 (y1.1.trans h2)
        refine ⟨x2, ?_, y1.trans y2⟩
        unfold recsS
        rw [recS_of hr64 a1]; exact a2
      · cases n with
        | zero => simp at hn
        | succ n =>
          have hhd : ∀ i, Hd 0 (D2 i) := fun i => by
            by_cases hi : i < lv1 k
            · have := blk_hd (p := 0) (rest := []) (q2 i hi) (Nat.le_refl _) (fun y t e => by cases e)
              rwa [List.append_nil] at this
            · rw [z2 i (by omega)]; intro y t e; cases e
          obtain ⟨lf1, a1, y1⟩ := b1 lf [] hl (by simpa using hr64) (fun i => ⟨D2 i, hd i, fun _ _ => hhd i⟩)
          obtain ⟨lf2, a2, y2⟩ := b2 n lf1 (out ++ [r]) (by simp at hn; omega) (y1.1.trans hl) (fun i => by
            have := y1.2 i
            rw [hd i] at this
            exact (List.append_cancel_left this).symm)
          refine ⟨lf2, ?_, y1.trans y2⟩
          have hne : lf.getD 0 [] ≠ [] := by
            rw [hd 0]
            obtain ⟨x, xs, e, -⟩ := q1 0 (Nat.le_refl _) (by have := lv1_pos k; omega)
            show D1 0 ++ D2 0 ≠ []
            rw [e]; simp
          unfold asmR
          rw [if_neg hne, a1]
          simp only [Option.bind_some, List.nil_append, a2, List.append_assoc]
          rfl
/-- what is shredded is assembled as it was -/
theorem back (l : List Fd) (rs : List (List Nat)) (cols : List (List Lv)) (h : shR l rs = .ok cols) : asmbl l cols = .ok rs := by
  unfold shR at h
  split at h
  · cases h
  · rename_i h0
    split at h
    · cases h
    · rename_i h1
      obtain ⟨k, hk, hfl, ho, -⟩ := check_form (Classical.not_not.1 h0)
      have hK := formK_is hfl
      rw [hK] at h
      obtain ⟨D, E, q, z, p, b⟩ := recs_spec k ho rs _ cols List.length_replicate h
      have hD : ∀ i, cols.getD i [] = D i := fun i => by rw [E.2, rep_get, List.nil_append]
      have hl : cols.length = lv1 k := by rw [E.1, List.length_replicate]
      obtain ⟨lf', a, y⟩ := b 8 cols [] (by omega) hl hD
      unfold asmbl
      rw [if_neg h0, hK, if_neg (by omega)]
      have : asR k cols = some rs := by
        unfold asR
        rw [a]
        simp only [Option.bind_some, List.nil_append]
        rw [if_pos]
        intro x hx
        obtain ⟨i, hi, rfl⟩ := List.mem_iff_getElem.1 hx
        have h2 := y.2 i
        rw [hD i] at h2
        have h3 : lf'.getD i [] = [] := by
          have h4 : D i ++ [] = D i ++ lf'.getD i [] := by rw [List.append_nil]; exact h2
          exact (List.append_cancel_left h4).symm
        simpa [List.getD, List.getElem?_eq_getElem hi] using h3
      rw [this]
/-- how many levels say rep 0 -/
def zeros (l : List Lv) : Nat := (l.filter fun x => x.1 = 0).length
theorem zeros_app (a b : List Lv) : zeros (a ++ b) = zeros a + zeros b := by unfold zeros; rw [List.filter_append, List.length_append]
theorem zeros_blk : ∀ (n : Nat) (l : List Lv), Blk 0 0 0 n l → zeros l = n
  | 0, l, h => by rw [show l = [] from h]; rfl
  | n + 1, l, h => by
    obtain ⟨a, b, e, ⟨x, xs, e2, e3, e4, -⟩, hb⟩ := h
    subst e e2
    rw [zeros_app, zeros_blk n b hb]
    have : zeros (x :: xs) = 1 := by
      unfold zeros
      have h1 : xs.filter (fun x => decide (x.1 = 0)) = [] := by
        rw [List.filter_eq_nil_iff]
        intro y hy
        have := e4 y hy
        simp; omega
      rw [List.filter_cons, if_pos (by simp [e3]), h1]; rfl
    omega
theorem starts (l : List Fd) (rs : List (List Nat)) (cols : List (List Lv)) (h : shR l rs = .ok cols) : 1 ≤ cols.length ∧ ∀ i, i < cols.length → zeros (cols.getD i []) = rs.length ∧ ∀ x t, cols.getD i [] = x :: t → x.1 = 0 := by
  unfold shR at h
  split at h
  · cases h
  · rename_i h0
    split at h
    · cases h
    · obtain ⟨k, hk, hfl, ho, -⟩ := check_form (Classical.not_not.1 h0)
      rw [formK_is hfl] at h
      obtain ⟨D, E, q, z, p, b⟩ := recs_spec k ho rs _ cols List.length_replicate h
      have hl : cols.length = lv1 k := by rw [E.1, List.length_replicate]
      refine ⟨by rw [hl]; exact lv1_pos k, fun i hi => ?_⟩
      rw [E.2, rep_get, List.nil_append]
      have hb := q i (by omega)
      refine ⟨zeros_blk _ _ hb, fun x t e => ?_⟩
      cases hr : rs with
      | nil => rw [hr] at hb; rw [show D i = [] from hb] at e; cases e
      | cons r rt =>
        rw [hr] at hb
        obtain ⟨a, b', e1, ⟨y, ys, e2, e3, -⟩, -⟩ := hb
        rw [e1, e2] at e
        simp only [List.cons_append] at e
        injection e with e5 e6
        rw [← e5, e3]; rfl
theorem recsS_app (k : F) : ∀ (a b : List (List Nat)) (cols : List (List Lv)), recsS k (a ++ b) cols = match recsS k a cols with | .error e => .error e | .ok c => recsS k b c
  | [], b, cols => rfl
  | r :: t, b, cols => by
    have e1 : recsS k (r :: (t ++ b)) cols = match recS k r cols with | .error e => .error e | .ok c => recsS k (t ++ b) c := rfl
    have e2 : recsS k (r :: t) cols = match recS k r cols with | .error e => .error e | .ok c => recsS k t c := rfl
    show recsS k (r :: (t ++ b)) cols = _
    rw [e1, e2]
    cases recS k r cols with
    | error e => rfl
    | ok c => exact recsS_app k t b c
/-- in parts -/
theorem parts (l : List Fd) (a b : List (List Nat)) (cols : List (List Lv)) (h : shR l (a ++ b) = .ok cols) : ∃ ca cb, shR l a = .ok ca ∧ shR l b = .ok cb ∧ ca.length = cols.length ∧ cb.length = cols.length ∧ ∀ i, cols.getD i [] = ca.getD i [] ++ cb.getD i [] := by
  unfold shR at h
  split at h
  · cases h
  · rename_i h0
    split at h
    · cases h
    · rename_i h8
      rw [List.length_append] at h8
      obtain ⟨k, hk, hfl, ho, -⟩ := check_form (Classical.not_not.1 h0)
      rw [formK_is hfl, recsS_app] at h
      cases hx : recsS k a (List.replicate (lv1 k) []) with
      | error e => rw [hx] at h; cases h
      | ok ca =>
        rw [hx] at h
        obtain ⟨D1, E1, -⟩ := recs_spec k ho a _ ca List.length_replicate hx
        have hl1 : ca.length = lv1 k := by rw [E1.1, List.length_replicate]
        obtain ⟨D2, E2, q2, z2, p2, b2⟩ := recs_spec k ho b ca cols hl1 h
        obtain ⟨cb, hb, E3⟩ := p2 (List.replicate (lv1 k) []) List.length_replicate
        refine ⟨ca, cb, ?_, ?_, E2.1.symm, by rw [E3.1, E2.1, List.length_replicate, hl1], fun i => by rw [E2.2, E3.2, rep_get, List.nil_append]⟩
        · unfold shR; rw [if_neg h0, if_neg (by omega), formK_is hfl, hx]
        · unfold shR; rw [if_neg h0, if_neg (by omega), formK_is hfl, hb]
end Go.Proofs.Ytjfkoledbegpfaa.Sh
