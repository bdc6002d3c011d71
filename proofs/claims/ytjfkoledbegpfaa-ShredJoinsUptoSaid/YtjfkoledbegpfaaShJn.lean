/- Plain: records of columns as the reference makes them: cut at the beginnings of records, and of what comes again; the same as the assembler's. -/
import Derived.Test.YtjfkoledbegpfaaShSal
namespace Go.Proofs.Ytjfkoledbegpfaa.Sh
set_option linter.unusedVariables false

/-- a column cut ahead of each level but the first one whose rep is at most so much -/
def cStep (P : Int) (out : List (List Lv)) (x : Lv) : List (List Lv) := if out = [] ∨ x.1 ≤ P then out ++ [[x]] else out.dropLast ++ [out.getLastD [] ++ [x]]
def cut (P : Int) (l : List Lv) : List (List Lv) := l.foldl (cStep P) []
theorem cut_snoc (P : Int) (l : List Lv) (x : Lv) : cut P (l ++ [x]) = cStep P (cut P l) x := by unfold cut; rw [List.foldl_append]; rfl
theorem cStep_ne (P : Int) (out : List (List Lv)) (x : Lv) : cStep P out x ≠ [] := by unfold cStep; split <;> simp
theorem cStep_pre (P : Int) (pre out : List (List Lv)) (x : Lv) (h : out ≠ []) : cStep P (pre ++ out) x = pre ++ cStep P out x := by
  unfold cStep
  by_cases hx : x.1 ≤ P
  · rw [if_pos (Or.inr hx), if_pos (Or.inr hx), List.append_assoc]
  · rw [if_neg (by simp [h, hx]), if_neg (by simp [h, hx])]
    obtain ⟨a, b, rfl⟩ : ∃ a b, out = a ++ [b] := ⟨out.dropLast, out.getLast h, (List.dropLast_concat_getLast h).symm⟩
    rw [← List.append_assoc]
    simp [List.getLastD_eq_getLast?]
theorem fold_pre (P : Int) : ∀ (b : List Lv) (pre out : List (List Lv)), out ≠ [] → b.foldl (cStep P) (pre ++ out) = pre ++ b.foldl (cStep P) out
  | [], pre, out, h => rfl
  | x :: t, pre, out, h => by
    simp only [List.foldl_cons]
    rw [cStep_pre P pre out x h]
    exact fold_pre P t pre _ (cStep_ne P out x)
theorem fold_deep (P : Int) : ∀ (xs a : List Lv), (∀ y ∈ xs, P < y.1) → xs.foldl (cStep P) [a] = [a ++ xs]
  | [], a, h => by simp
  | x :: t, a, h => by
    have h1 := h x (List.mem_cons_self ..)
    simp only [List.foldl_cons]
    have : cStep P [a] x = [a ++ [x]] := by unfold cStep; rw [if_neg (by simp; omega)]; rfl
    rw [this, fold_deep P t (a ++ [x]) (fun y hy => h y (List.mem_cons_of_mem _ hy))]
    simp
theorem cut_block {P ρ d : Nat} {a b : List Lv} (ha : Colm P ρ d a) (hb : ∀ y t, b = y :: t → y.1 ≤ (P : Int)) : cut P (a ++ b) = a :: cut P b := by
  obtain ⟨x, xs, rfl, -, hxs, -⟩ := ha
  have h1 : cut (P : Int) (x :: xs) = [x :: xs] := by
    unfold cut
    simp only [List.foldl_cons]
    have : cStep (P : Int) [] x = [[x]] := by unfold cStep; rw [if_pos (Or.inl rfl)]; rfl
    rw [this, fold_deep _ xs [x] hxs]; rfl
  unfold cut at h1 ⊢
  rw [List.foldl_append, h1]
  cases b with
  | nil => rfl
  | cons y t =>
    have hy := hb y t rfl
    simp only [List.foldl_cons]
    have e1 : cStep (P : Int) [x :: xs] y = [x :: xs] ++ [[y]] := by unfold cStep; rw [if_pos (Or.inr hy)]
    have e2 : cStep (P : Int) [] y = [[y]] := by unfold cStep; rw [if_pos (Or.inl rfl)]; rfl
    rw [e1, e2, fold_pre _ t [x :: xs] [[y]] (by simp)]; rfl
/-- columns cut; none: not all have as many parts -/
def cutAll (P : Int) (cols : List (List Lv)) : Option (List (List (List Lv))) :=
  if ∀ c ∈ cols, (cut P c).length = (cut P (cols.headD [])).length then some ((List.range (cut P (cols.headD [])).length).map fun k => cols.map fun c => (cut P c).getD k []) else none
/-- all of them, one behind the other -/
def jAll (f : List (List Lv) → Option (List Nat)) : List (List (List Lv)) → Option (List Nat)
  | [] => some []
  | c :: t => (f c).bind fun a => (jAll f t).bind fun b => some (a ++ b)
def jOne (f : Nat → Nat → List (List Lv) → Option (List Nat)) (r p d : Nat) (cols : List (List Lv)) : Option (List Nat) :=
  if r = 0 then f p d cols else if ∃ c ∈ cols, c = [] then none else if ((cols.headD []).headD (0, 0, 0)).2.1 ≤ (d : Int) then some [0] else
    (if r = 2 then cutAll ((p + 1 : Nat) : Int) cols else some [cols]).bind fun parts => (jAll (f (rn r p) (d + 1)) parts).bind fun l => some (parts.length :: l)
def jal : F → Nat → Nat → List (List Lv) → Option (List Nat)
  | .nil, _, _, _ => some []
  | .cons r k s, p, d, cols =>
    (jOne (fun P D cs => if isNil k = true then (match cs.headD [] with | [x] => some [x.2.2] | _ => none) else jal k P D cs) r p d (cols.take (lv1 k))).bind fun a => (jal s p d (cols.drop (lv1 k))).bind fun b => some (a ++ b)
def jIn (k : F) (P D : Nat) (cs : List (List Lv)) : Option (List Nat) := if isNil k = true then (match cs.headD [] with | [x] => some [x.2.2] | _ => none) else jal k P D cs
theorem jal_cons (r : Nat) (k s : F) (p d : Nat) (cols : List (List Lv)) : jal (.cons r k s) p d cols = (jOne (jIn k) r p d (cols.take (lv1 k))).bind fun a => (jal s p d (cols.drop (lv1 k))).bind fun b => some (a ++ b) := rfl

/-- each of them -/
def jMap (f : List (List Lv) → Option (List Nat)) : List (List (List Lv)) → Option (List (List Nat))
  | [] => some []
  | c :: t => (f c).bind fun a => (jMap f t).bind fun b => some (a :: b)
/-- columns c, c + 1, .. -/
def seg (c m : Nat) (D : Nat → List Lv) : List (List Lv) := (List.range m).map fun j => D (c + j)
theorem seg_length (c m : Nat) (D : Nat → List Lv) : (seg c m D).length = m := by simp [seg]
theorem seg_take {c m n : Nat} {D : Nat → List Lv} : (seg c (m + n) D).take m = seg c m D := by
  unfold seg
  rw [← List.map_take, List.take_range]
  congr 2; omega
theorem seg_drop {c m n : Nat} {D : Nat → List Lv} : (seg c (m + n) D).drop m = seg (c + m) n D := by
  unfold seg
  apply List.ext_getElem
  · simp
  · intro i h1 h2
    simp [Nat.add_assoc]
theorem seg_head {c m : Nat} {D : Nat → List Lv} (hm : 0 < m) : (seg c m D).headD [] = D c := by
  obtain ⟨n, rfl⟩ : ∃ n, m = n + 1 := ⟨m - 1, by omega⟩
  unfold seg
  rw [List.range_succ_eq_map]; rfl
theorem seg_mem {c m : Nat} {D : Nat → List Lv} {x : List Lv} (h : x ∈ seg c m D) : ∃ j, j < m ∧ x = D (c + j) := by
  unfold seg at h
  obtain ⟨j, hj, rfl⟩ := List.mem_map.1 h
  exact ⟨j, List.mem_range.1 hj, rfl⟩
theorem seg_congr {c m : Nat} {D E : Nat → List Lv} (h : ∀ i, c ≤ i → i < c + m → D i = E i) : seg c m D = seg c m E := by
  unfold seg
  exact List.map_congr_left (fun j hj => h (c + j) (by omega) (by have := List.mem_range.1 hj; omega))
/-- parts of columns that come of blocks -/
inductive Parts (c m P d : Nat) : Nat → Nat → (Nat → List Lv) → List (Nat → List Lv) → Prop
  | nil (ρ : Nat) (D : Nat → List Lv) : (∀ i, c ≤ i → i < c + m → D i = []) → Parts c m P d ρ 0 D []
  | cons (ρ n : Nat) (D A B : Nat → List Lv) (l : List (Nat → List Lv)) : (∀ i, c ≤ i → i < c + m → D i = A i ++ B i) → (∀ i, c ≤ i → i < c + m → Colm P ρ d (A i)) → Parts c m P d P n B l → Parts c m P d ρ (n + 1) D (A :: l)
theorem parts_head {c m P d : Nat} : ∀ {n : Nat} {D : Nat → List Lv} {l : List (Nat → List Lv)}, Parts c m P d P n D l → ∀ i, c ≤ i → i < c + m → ∀ y t, D i = y :: t → y.1 ≤ (P : Int)
  | 0, D, l, h, i, h1, h2, y, t, e => by
    cases h with
    | nil _ _ h => rw [h i h1 h2] at e; cases e
  | n + 1, D, l, h, i, h1, h2, y, t, e => by
    cases h with
    | cons _ _ _ A B l hD hA hB =>
      obtain ⟨x, xs, e2, e3, -, -⟩ := hA i h1 h2
      rw [hD i h1 h2, e2] at e
      simp only [List.cons_append] at e
      injection e with e4 e5
      rw [← e4, e3]; exact Int.le_refl _
theorem parts_cut {c m P d : Nat} : ∀ {n ρ : Nat} {D : Nat → List Lv} {l : List (Nat → List Lv)}, Parts c m P d ρ n D l → l.length = n ∧ ∀ i, c ≤ i → i < c + m → cut (P : Int) (D i) = l.map fun A => A i
  | 0, ρ, D, l, h => by
    cases h with
    | nil _ _ h => exact ⟨rfl, fun i h1 h2 => by rw [h i h1 h2]; rfl⟩
  | n + 1, ρ, D, l, h => by
    cases h with
    | cons _ _ _ A B l hD hA hB =>
      obtain ⟨e1, e2⟩ := parts_cut hB
      refine ⟨by rw [List.length_cons, e1], fun i h1 h2 => ?_⟩
      rw [hD i h1 h2, cut_block (hA i h1 h2) (parts_head hB i h1 h2), e2 i h1 h2]; rfl
theorem parts_all {c m P d n ρ : Nat} {D : Nat → List Lv} {l : List (Nat → List Lv)} (hm : 0 < m) (h : Parts c m P d ρ n D l) : cutAll (P : Int) (seg c m D) = some (l.map fun A => seg c m A) := by
  obtain ⟨e1, e2⟩ := parts_cut h
  have hh : cut (P : Int) ((seg c m D).headD []) = l.map fun A => A c := by rw [seg_head hm]; exact e2 c (Nat.le_refl _) (by omega)
  unfold cutAll
  rw [if_pos]
  · congr 1
    rw [hh, List.length_map]
    apply List.ext_getElem
    · simp
    · intro k h1 h2
      simp only [List.length_map, List.length_range] at h1
      simp only [List.getElem_map, List.getElem_range]
      unfold seg
      rw [List.map_map]
      refine List.map_congr_left (fun j hj => ?_)
      have hj2 := List.mem_range.1 hj
      simp only [Function.comp]
      rw [e2 (c + j) (by omega) (by omega)]
      simp [List.getD, List.getElem?_eq_getElem h1]
  · intro x hx
    obtain ⟨j, hj, rfl⟩ := seg_mem hx
    rw [hh, e2 (c + j) (by omega) (by omega), List.length_map, List.length_map]

/-- what g shreds, jf joins -/
def JK (N c m : Nat) (g : Sd → Option Sd) (jf : List (List Lv) → Option (List Nat)) : Prop :=
  ∀ ls cols ls' cols' nums D, cols.length = N → g (ls, cols) = some (ls', cols') → ls = nums ++ ls' → Ext cols cols' D → jf (seg c m D) = some nums
theorem JK.ext {N c m : Nat} {g g' : Sd → Option Sd} {jf jf' : List (List Lv) → Option (List Nat)} (h : JK N c m g jf) (hg : ∀ st, g' st = g st) (hj : ∀ l, jf' l = jf l) : JK N c m g' jf' := by
  have e1 : g' = g := funext hg
  have e2 : jf' = jf := funext hj
  rw [e1, e2]; exact h
theorem ext_unique {cols cols' : List (List Lv)} {D E : Nat → List Lv} (h : Ext cols cols' D) (k : Ext cols cols' E) : D = E := by
  funext i
  have h1 := h.2 i
  rw [k.2 i] at h1
  exact (List.append_cancel_left h1).symm
/-- so many times: its parts, each of them joined -/
theorem jk_times (N c m P d : Nat) (g : Nat → Sd → Option Sd) (f : Nat → As → Option As) (jf : List (List Lv) → Option (List Nat)) (hb : ∀ ρ, BK N c m (Colm P ρ d) P (g ρ) (f ρ)) (hj : ∀ ρ, JK N c m (g ρ) jf) :
    ∀ (n ρ : Nat) (ls : List Nat) (cols : List (List Lv)) (ls' : List Nat) (cols' : List (List Lv)), cols.length = N → times g n ρ P (ls, cols) = some (ls', cols') → ∃ nums D l, ls = nums ++ ls' ∧ Ext cols cols' D ∧ Parts c m P d ρ n D l ∧ jAll jf (l.map fun A => seg c m A) = some nums
  | 0, ρ, ls, cols, ls', cols', hN, h => by cases h; exact ⟨[], fun _ => [], [], rfl, Ext.refl _, Parts.nil _ _ (fun _ _ _ => rfl), rfl⟩
  | n + 1, ρ, ls, cols, ls', cols', hN, h => by
    change (g ρ (ls, cols)).bind (times g n P P) = _ at h
    cases hx : g ρ (ls, cols) with
    | none => rw [hx] at h; cases h
    | some st =>
      obtain ⟨l1, c1⟩ := st
      rw [hx] at h
      simp only [Option.bind_some] at h
      obtain ⟨n1, D1, e1, E1, q1, z1, -, -⟩ := hb ρ ls cols l1 c1 hN hx
      obtain ⟨n2, D2, l2, e2, E2, hp2, hj2⟩ := jk_times N c m P d g f jf hb hj n P l1 c1 ls' cols' (E1.1.trans hN) h
      refine ⟨n1 ++ n2, fun i => D1 i ++ D2 i, D1 :: l2, by rw [e1, e2, List.append_assoc], E1.trans E2, Parts.cons ρ n _ D1 D2 l2 (fun _ _ _ => rfl) q1 hp2, ?_⟩
      have h1 := hj ρ ls cols l1 c1 n1 D1 hN hx e1 E1
      simp only [List.map_cons, jAll, h1, Option.bind_some, hj2]
theorem jk_level (N c ρ d : Nat) (hc : c < N) : JK N c 1 (fun st => sdLevel st c ρ d true) (fun cs => match cs.headD [] with | [x] => some [x.2.2] | _ => none) := by
  intro ls cols ls' cols' nums D hN hg hl hE
  cases ls with
  | nil => cases hg
  | cons n t =>
    cases hg
    have hD := ext_unique hE (ext_push cols c ((ρ : Int), (d : Int), n) (by omega))
    subst hD
    obtain rfl : nums = [n] := by
      have : n :: ls' = nums ++ ls' := hl
      have h2 : [n] ++ ls' = nums ++ ls' := this
      exact (List.append_cancel_right h2).symm
    simp only [seg_head (show 0 < 1 by omega)]
    unfold at1
    rw [if_pos rfl]
theorem bk_field {N r d p c rep : Nat} {k : F} (ho : r ≤ 2 ∧ len k ≤ 4 ∧ ok k) (h : c + lv1 k ≤ N) : BK N c (lv1 k) (Colm p rep d) p (al1 sdW r k d p c rep) (al1 asW r k d p c rep) := by
  have e0 : leaves (.cons r k .nil) = lv1 k := by rw [leaves_cons]; rfl
  have h1 := bk_al N (.cons r k .nil) d p c rep ⟨ho.1, ho.2.1, ho.2.2, trivial⟩ (by rw [e0]; exact h)
  rw [e0] at h1
  exact bk_ext h1 (fun st => (bind_id _).symm) (fun st => (bind_id _).symm)
theorem jk_al (N : Nat) : ∀ (F : F) (d p c rep : Nat), ok F → c + leaves F ≤ N → JK N c (leaves F) (al sdW F d p c rep) (jal F p d)
  | .nil, d, p, c, rep, ho, h => fun ls cols ls' cols' nums D hN hg hl hE => by
    cases hg
    have : nums = [] := by
      have h2 : [] ++ ls = nums ++ ls := hl
      exact (List.append_cancel_right h2).symm
    rw [this]; rfl
  | .cons r k s, d, p, c, rep, ho, h => by
    rw [leaves_cons] at h ⊢
    have hl0 := lv1_pos k
    have hpP : p ≤ rn r p := rn_ge r p
    have hbb : ∀ ρ, BK N c (lv1 k) (Colm (rn r p) ρ (dn r d)) (rn r p) (body sdW k (dn r d) (rn r p) c ρ) (body asW k (dn r d) (rn r p) c ρ) := fun ρ => by
      cases k with
      | nil => exact bk_ext (bk_level N c ρ (dn r d) (rn r p) (rn r p) true (by omega)) (fun st => body_nil _ _ _ _ _ st) (fun st => body_nil _ _ _ _ _ st)
      | cons r' k' s' => exact bk_al N (.cons r' k' s') (dn r d) (rn r p) c ρ ho.2.2.1 (by
          have : lv1 (.cons r' k' s') = leaves (.cons r' k' s') := rfl
          omega)
    have hjb : ∀ ρ, JK N c (lv1 k) (body sdW k (dn r d) (rn r p) c ρ) (jIn k (rn r p) (dn r d)) := fun ρ => by
      cases k with
      | nil => exact (jk_level N c ρ (dn r d) (by omega)).ext (fun st => body_nil _ _ _ _ _ st) (fun _ => rfl)
      | cons r' k' s' => exact jk_al N (.cons r' k' s') (dn r d) (rn r p) c ρ ho.2.2.1 (by
          have : lv1 (.cons r' k' s') = leaves (.cons r' k' s') := rfl
          omega)
    have h1 : JK N c (lv1 k) (al1 sdW r k d p c rep) (jOne (jIn k) r p d) := by
      intro ls cols ls' cols' nums D hN hg hl hE
      by_cases h0 : r = 0
      · subst h0
        have hg2 : body sdW k (dn 0 d) (rn 0 p) c rep (ls, cols) = some (ls', cols') := by
          rw [al1_req] at hg
          have h9 : (body sdW k d p c rep (ls, cols)).bind some = some (ls', cols') := hg
          rw [bind_id] at h9; exact h9
        have := hjb rep ls cols ls' cols' nums D hN hg2 hl hE
        unfold jOne
        rw [if_pos rfl]; exact this
      · cases ls with
        | nil => rw [al1_none h0 rfl] at hg; cases hg
        | cons m t =>
          have hof : sdW.often (m :: t, cols) r (dn r d) (rn r p) c = if r = 1 ∧ 1 < m then none else some (m, (t, cols)) := rfl
          by_cases hbad : r = 1 ∧ 1 < m
          · rw [if_pos hbad] at hof; rw [al1_none h0 hof] at hg; cases hg
          rw [if_neg hbad] at hof
          have hD : dn r d = d + 1 := by unfold dn; rw [if_neg h0]
          by_cases hm : m = 0
          · subst hm
            rw [al1_zero h0 hof] at hg
            obtain ⟨c2, e1, e2⟩ := nulls_ext rep d (lv1 k) c t cols (by omega)
            have e1 : nulls sdW.level (lv1 k) c rep d (t, cols) = some (t, c2) := e1
            rw [e1] at hg
            cases hg
            have hDD := ext_unique hE e2
            obtain rfl : nums = [0] := by
              have h2 : [0] ++ ls' = nums ++ ls' := hl
              exact (List.append_cancel_right h2).symm
            have hat : ∀ i, c ≤ i → i < c + lv1 k → D i = [((rep : Int), (d : Int), 0)] := fun i a b => by
              rw [hDD]
              unfold part
              rw [List.length_replicate, if_pos ⟨a, b⟩]
              simp [List.getD, show i - c < lv1 k by omega]
            unfold jOne
            rw [if_neg h0, if_neg, seg_head hl0, hat c (Nat.le_refl _) (by omega), if_pos (by exact Int.le_refl _)]
            rintro ⟨x, hx, rfl⟩
            obtain ⟨j, hj, e⟩ := seg_mem hx
            rw [hat (c + j) (by omega) (by omega)] at e
            cases e
          · rw [al1_some h0 hm hof] at hg
            obtain ⟨n1, D1, l, e1, e2, hp, hj⟩ := jk_times N c (lv1 k) (rn r p) (dn r d) _ _ _ hbb hjb m rep t cols ls' cols' hN hg
            have hDD := ext_unique hE e2
            subst hDD
            obtain rfl : nums = m :: n1 := by
              have h2 : (m :: n1) ++ ls' = nums ++ ls' := by rw [List.cons_append, ← e1]; exact hl
              exact (List.append_cancel_right h2).symm
            obtain ⟨m', rfl⟩ : ∃ m', m = m' + 1 := ⟨m - 1, by omega⟩
            obtain ⟨pl, -⟩ := parts_cut hp
            have hne : ∀ i, c ≤ i → i < c + lv1 k → ∃ x t, D i = x :: t ∧ (d : Int) < x.2.1 := fun i a b => by
              cases hp with
              | cons _ _ _ A B l hD2 hA hB =>
                obtain ⟨x, xs, q1, q2, q3, q4⟩ := hA i a b
                refine ⟨x, xs ++ B i, by rw [hD2 i a b, q1]; rfl, ?_⟩
                have := q4 x (by rw [q1]; exact List.mem_cons_self ..)
                rw [hD] at this
                omega
            unfold jOne
            rw [if_neg h0, if_neg, seg_head hl0]
            · obtain ⟨x, xs, q1, q2⟩ := hne c (Nat.le_refl _) (by omega)
              rw [q1, if_neg (by show ¬ x.2.1 ≤ (d : Int); omega)]
              by_cases h2 : r = 2
              · have hrn : rn r p = p + 1 := by unfold rn; rw [if_pos h2]
                rw [if_pos h2, ← hrn, parts_all hl0 hp]
                rw [hD] at hj
                simp only [Option.bind_some, hj, List.length_map, pl]
              · have hm1 : m' = 0 := by
                  have : ¬ 1 < m' + 1 := fun h => hbad ⟨by have := ho.1; omega, h⟩
                  omega
                subst hm1
                rw [if_neg h2]
                cases hp with
                | cons _ _ _ A B l hD2 hA hB =>
                  cases hB with
                  | nil _ _ hB =>
                    have hseg : seg c (lv1 k) D = seg c (lv1 k) A := seg_congr (fun i a b => by rw [hD2 i a b, hB i a b, List.append_nil])
                    rw [hD] at hj
                    simp only [List.map_cons, List.map_nil] at hj
                    rw [hseg]
                    simp only [Option.bind_some, hj, List.length_cons, List.length_nil]
            · rintro ⟨x, hx, rfl⟩
              obtain ⟨j, hj2, e⟩ := seg_mem hx
              obtain ⟨y, ys, q1, -⟩ := hne (c + j) (by omega) (by omega)
              rw [q1] at e; cases e
    intro ls cols ls' cols' nums D hN hg hl hE
    rw [al_cons] at hg
    cases hx : al1 sdW r k d p c rep (ls, cols) with
    | none => rw [hx] at hg; cases hg
    | some st =>
      obtain ⟨l1, c1⟩ := st
      rw [hx] at hg
      simp only [Option.bind_some] at hg
      obtain ⟨n1, D1, e1, E1, -, z1, -, -⟩ := bk_field ⟨ho.1, ho.2.1, ho.2.2.1⟩ (by omega) ls cols l1 c1 hN hx
      obtain ⟨n2, D2, e2, E2, -, z2, -, -⟩ := bk_al N s d p (c + lv1 k) rep ho.2.2.2 (by omega) l1 c1 ls' cols' (E1.1.trans hN) hg
      have j1 := h1 ls cols l1 c1 n1 D1 hN hx e1 E1
      have j2 := jk_al N s d p (c + lv1 k) rep ho.2.2.2 (by omega) l1 c1 ls' cols' n2 D2 (E1.1.trans hN) hg e2 E2
      have hDD := ext_unique hE (E1.trans E2)
      subst hDD
      obtain rfl : nums = n1 ++ n2 := by
        have h2 : (n1 ++ n2) ++ ls' = nums ++ ls' := by rw [List.append_assoc, ← e2, ← e1]; exact hl
        exact (List.append_cancel_right h2).symm
      rw [jal_cons, seg_take, seg_drop]
      rw [show seg c (lv1 k) (fun i => D1 i ++ D2 i) = seg c (lv1 k) D1 from seg_congr (fun i a b => by rw [z2 i (by omega), List.append_nil]),
        show seg (c + lv1 k) (leaves s) (fun i => D1 i ++ D2 i) = seg (c + lv1 k) (leaves s) D2 from seg_congr (fun i a b => by rw [z1 i (by omega), List.nil_append]), j1]
      simp only [Option.bind_some, j2]

/-- what the reference answers -/
noncomputable def asmOf (l : List Fd) (cols : List (List Lv)) : Except Nat (List (List Nat)) := open Classical in
  if check l ≠ 0 then .error (check l) else if cols.length ≠ lv1 (formK l) then .error 1 else match cutAll 0 cols with
    | none => .error 1
    | some parts => match jMap (jIn (formK l) 0 0) parts with
      | none => .error 1
      | some outs => if shR l outs = .ok cols then .ok outs else .error 1
theorem jk_one (k : F) (ho : ok (.cons 0 k .nil)) : JK (lv1 k) 0 (lv1 k) (al1 sdW 0 k 0 0 0 0) (jIn k 0 0) := by
  have h := jk_al (lv1 k) (.cons 0 k .nil) 0 0 0 0 ho (by rw [leaves_one]; omega)
  rw [leaves_one] at h
  intro ls cols ls' cols' nums D hN hg hl hE
  have h2 := h ls cols ls' cols' nums D hN (by rw [al_one]; exact hg) hl hE
  rw [jal_cons, show (seg 0 (lv1 k) D).take (lv1 k) = seg 0 (lv1 k) D from List.take_of_length_le (by rw [seg_length]; exact Nat.le_refl _)] at h2
  have e0 : jOne (jIn k) 0 0 0 (seg 0 (lv1 k) D) = jIn k 0 0 (seg 0 (lv1 k) D) := by unfold jOne; rw [if_pos rfl]
  rw [e0] at h2
  cases hj : jIn k 0 0 (seg 0 (lv1 k) D) with
  | none => rw [hj] at h2; cases h2
  | some a =>
    rw [hj] at h2
    have h3 : some (a ++ []) = some nums := h2
    rw [List.append_nil] at h3
    exact h3
theorem jk_recs (k : F) (ho : ok (.cons 0 k .nil)) : ∀ (rs : List (List Nat)) (cols cols' : List (List Lv)), cols.length = lv1 k → recsS k rs cols = .ok cols' → ∃ D l, Ext cols cols' D ∧ Parts 0 (lv1 k) 0 0 0 rs.length D l ∧ jMap (jIn k 0 0) (l.map fun A => seg 0 (lv1 k) A) = some rs
  | [], cols, cols', hN, h => by cases h; exact ⟨fun _ => [], [], Ext.refl _, Parts.nil _ _ (fun _ _ _ => rfl), rfl⟩
  | r :: t, cols, cols', hN, h => by
    unfold recsS at h
    cases hx : recS k r cols with
    | error e => rw [hx] at h; cases h
    | ok c1 =>
      rw [hx] at h
      obtain ⟨-, h1⟩ := recS_ok hx
      obtain ⟨n1, D1, e1, E1, q1, -, -, -⟩ := bk_one k ho r cols [] c1 hN h1
      rw [List.append_nil] at e1
      have j1 := jk_one k ho r cols [] c1 r D1 hN h1 (by rw [List.append_nil]) E1
      obtain ⟨D2, l2, E2, hp, hj⟩ := jk_recs k ho t c1 cols' (E1.1.trans hN) h
      refine ⟨fun i => D1 i ++ D2 i, D1 :: l2, E1.trans E2, Parts.cons 0 _ _ D1 D2 l2 (fun _ _ _ => rfl) q1 hp, ?_⟩
      simp only [List.map_cons, jMap, j1, Option.bind_some, hj]
theorem asmOf_is (l : List Fd) (cols : List (List Lv)) : asmOf l cols = asmbl l cols := by
  cases hA : asmbl l cols with
  | ok outs =>
    have hS := only l cols outs hA
    have hS2 := hS
    unfold shR at hS
    split at hS
    · cases hS
    · rename_i h0
      split at hS
      · cases hS
      · obtain ⟨k, hk, hfl, ho, -⟩ := check_form (Classical.not_not.1 h0)
        rw [formK_is hfl] at hS
        obtain ⟨D, l2, E, hp, hj⟩ := jk_recs k ho outs _ cols List.length_replicate hS
        have hl : cols.length = lv1 k := by rw [E.1, List.length_replicate]
        have hc : cols = seg 0 (lv1 k) D := by
          apply List.ext_getElem
          · rw [seg_length, hl]
          · intro i h1 h2
            have := E.2 i
            rw [rep_get, List.nil_append] at this
            simp only [List.getD, List.getElem?_eq_getElem h1, Option.getD_some] at this
            rw [this]
            simp [seg]
        have hcut := parts_all (lv1_pos k) hp
        unfold asmOf
        rw [if_neg h0, formK_is hfl, if_neg (by omega)]
        rw [← hc] at hcut
        have hcut : cutAll 0 cols = some (l2.map fun A => seg 0 (lv1 k) A) := hcut
        rw [hcut]
        simp only [hj]
        rw [if_pos hS2]
  | error n =>
    unfold asmOf
    by_cases h0 : check l ≠ 0
    · rw [if_pos h0]
      unfold asmbl at hA
      rw [if_pos h0] at hA
      exact hA
    · have h1 : n = 1 := by
        unfold asmbl at hA
        rw [if_neg h0] at hA
        split at hA
        · cases hA; rfl
        · cases hx : asR (formK l) cols with
          | none => rw [hx] at hA; cases hA; rfl
          | some o => rw [hx] at hA; cases hA
      subst h1
      rw [if_neg h0]
      by_cases h2 : cols.length ≠ lv1 (formK l)
      · rw [if_pos h2]
      · rw [if_neg h2]
        cases hc : cutAll 0 cols with
        | none => rfl
        | some parts =>
          simp only
          cases hj : jMap (jIn (formK l) 0 0) parts with
          | none => rfl
          | some outs =>
            simp only
            by_cases h3 : shR l outs = .ok cols
            · have := back l outs cols h3
              rw [this] at hA; cases hA
            · rw [if_neg h3]
end Go.Proofs.Ytjfkoledbegpfaa.Sh
