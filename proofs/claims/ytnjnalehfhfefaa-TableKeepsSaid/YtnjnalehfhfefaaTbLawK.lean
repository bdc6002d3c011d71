/- Plain laws of tables: rows that are kept, cells that are redacted. -/
import Derived.Test.YtnjnalehfhfefaaTbLawS
namespace Go.Proofs.Ytnjnalehfhfefaa.Tb
set_option linter.unusedVariables false

theorem rowE_zero : ∀ (ks : List Int) (row : List C.Cl), (∀ i, i < ks.length → i < row.length → C.chk (ks.getD i 0) [row.getD i C.null] = 0) → O.rowE ks row = 0
  | [], _, _ => rfl
  | k :: ks, [], _ => rfl
  | k :: ks, c :: cs, h => by
    unfold O.rowE
    have h0 := h 0 (by simp) (by simp)
    simp [List.getD] at h0
    rw [if_neg (by rw [h0]; simp)]
    exact rowE_zero ks cs (fun i h1 h2 => by
      have := h (i + 1) (by simpa using h1) (by simpa using h2)
      simpa [List.getD] using this)
theorem rowAt_len (t : T) (i : Nat) : (rowAt t i).length = t.data.length := by simp [rowAt]
theorem kinds_len' (t : T) : (kinds t).length = t.cols.length := by simp [kinds]
theorem kinds_getD (t : T) (i : Nat) : (kinds t).getD i 0 = (t.cols.getD i nulC).kind := getD_map _ _ _ nulC 0 rfl
theorem rowAt_getD (t : T) (i c : Nat) : (rowAt t i).getD c C.null = (t.data.getD c []).getD i C.null := by
  unfold rowAt
  rw [getD_map (fun l : List C.Cl => l.getD i C.null) t.data c [] C.null (by simp)]
theorem Ok.row {t : T} (h : Ok t) {i : Nat} (hi : i < Tb.rows t) : O.rowE (kinds t) (rowAt t i) = 0 := by
  refine rowE_zero _ _ (fun c hc hc2 => ?_)
  rw [kinds_len'] at hc
  rw [kinds_getD, rowAt_getD]
  exact h.cell c hc i (by rw [h.rows c hc]; exact hi)
/-- what a condition is of a row of a table that is right -/
theorem Ok.ask {t : T} (h : Ok t) {i : Nat} (hi : i < Tb.rows t) {p : List O.Cd} {s : O.T} (hs : O.ok (kinds t) s) (hp : O.flat s = p) (hl : p.length ≤ 16) : O.askR p (kinds t) (rowAt t i) = (O.ev (O.askL (rowAt t i)) O.jo s, 0) :=
  O.askR_tree hs hp hl (by rw [rowAt_len, kinds_len', h.len]) (h.row hi)

/-- what is kept of a list by a rule on places -/
def sel (f : Nat → Bool) (l : List C.Cl) (n : Nat) : List C.Cl := marked l ((List.range n).map f)
theorem marked_filter (l : List C.Cl) (f : Nat → Bool) (n : Nat) (h : l.length = n) : marked l ((List.range n).map f) = ((List.range n).filter f).map (fun i => l.getD i C.null) := by
  subst h
  have key : ∀ (l : List C.Cl) (k : Nat), marked l ((List.range' k l.length).map f) = ((List.range' k l.length).filter f).map (fun i => l.getD (i - k) C.null) := by
    intro l
    induction l with
    | nil => intro k; simp [marked]
    | cons x l ih =>
      intro k
      rw [List.length_cons, List.range'_succ, List.map_cons]
      have hm : ∀ (b : Bool) (m : List Bool), marked (x :: l) (b :: m) = (if b then [x] else []) ++ marked l m := by
        intro b m; unfold marked; cases b <;> simp
      rw [hm, ih (k + 1), List.filter_cons]
      have e : ((List.range' (k + 1) l.length).filter f).map (fun i => l.getD (i - (k + 1)) C.null) = ((List.range' (k + 1) l.length).filter f).map (fun i => (x :: l).getD (i - k) C.null) := by
        refine map_congr' fun i hi => ?_
        have h1 := (List.mem_range'_1.1 (List.mem_filter.1 hi).1).1
        rw [show i - k = (i - (k + 1)) + 1 by omega]
        simp [List.getD]
      rw [e]
      cases f k
      · simp
      · simp [List.getD]
  have := key l 0
  rw [← List.range_eq_range'] at this
  simpa using this
/-- the rows of a table that a condition is True of -/
def hits (t : T) (p : List O.Cd) : List Nat := (List.range (Tb.rows t)).filter (tru t p)
def picked (t : T) (at_ : List Nat) : T := ⟨t.cols, t.data.map fun l => at_.map fun i => l.getD i C.null⟩
theorem keep_picked {t : T} (h : Ok t) (p : List O.Cd) : Tb.keep t p = picked t (hits t p) := by
  unfold Tb.keep picked
  refine congrArg (T.mk t.cols) (map_congr' fun l hl => ?_)
  exact marked_filter l (tru t p) (Tb.rows t) (h.lens l hl)
theorem rows_picked {t : T} (h : Ok t) (a : List Nat) (h0 : 0 < t.cols.length) : Tb.rows (picked t a) = a.length := by
  unfold Tb.rows picked
  have : 0 < t.data.length := by rw [h.len]; exact h0
  show ((t.data.map _).getD 0 []).length = _
  rw [show (t.data.map fun l => a.map fun i => l.getD i C.null).getD 0 [] = a.map fun i => (t.data.getD 0 []).getD i C.null by
    simp [List.getD, List.getElem?_eq_getElem this]]
  simp
theorem getD_nats (a : List Nat) {j : Nat} (h : j < a.length) : a.getD j 0 = a[j] := by simp [List.getD, List.getElem?_eq_getElem h]
theorem tru_picked (t : T) (a : List Nat) (p : List O.Cd) {j : Nat} (h : j < a.length) : tru (picked t a) p j = tru t p (a.getD j 0) := by
  unfold tru
  rw [show rowAt (picked t a) j = rowAt t (a.getD j 0) by
    unfold rowAt picked
    rw [List.map_map]
    refine map_congr' fun l _ => ?_
    show (a.map fun i => l.getD i C.null).getD j C.null = _
    simp [List.getD, List.getElem?_eq_getElem h]]
  rfl
theorem range_filter_map (a : List Nat) (f : Nat → Bool) : ((List.range a.length).filter fun j => f (a.getD j 0)).map (fun j => a.getD j 0) = a.filter f := by
  have key : ∀ (a : List Nat) (k : Nat), ((List.range' k a.length).filter fun j => f (a.getD (j - k) 0)).map (fun j => a.getD (j - k) 0) = a.filter f := by
    intro a
    induction a with
    | nil => intro k; simp
    | cons x a ih =>
      intro k
      rw [List.length_cons, List.range'_succ, List.filter_cons, List.filter_cons, ← ih (k + 1)]
      have e : ∀ i ∈ List.range' (k + 1) a.length, (x :: a).getD (i - k) 0 = a.getD (i - (k + 1)) 0 := by
        intro i hi
        have h1 := (List.mem_range'_1.1 hi).1
        rw [show i - k = (i - (k + 1)) + 1 by omega]
        simp [List.getD]
      have e1 : (List.range' (k + 1) a.length).filter (fun j => f ((x :: a).getD (j - k) 0)) = (List.range' (k + 1) a.length).filter (fun j => f (a.getD (j - (k + 1)) 0)) :=
        List.filter_congr fun i hi => by rw [e i hi]
      have e2 : ((List.range' (k + 1) a.length).filter (fun j => f (a.getD (j - (k + 1)) 0))).map (fun j => (x :: a).getD (j - k) 0) = ((List.range' (k + 1) a.length).filter (fun j => f (a.getD (j - (k + 1)) 0))).map (fun j => a.getD (j - (k + 1)) 0) :=
        map_congr' fun i hi => e i (List.mem_filter.1 hi).1
      rw [e1, Nat.sub_self]
      have e0 : (x :: a).getD 0 0 = x := by simp [List.getD]
      rw [e0]
      cases hf : f x
      · simp only [Bool.false_eq_true, if_false]
        rw [e2]
      · simp only [if_true, List.map_cons]
        rw [e2, Nat.sub_self, e0]
  have := key a 0
  rw [← List.range_eq_range'] at this
  simpa using this
/-- kept of what was kept: one picks once -/
theorem keep_pick {t : T} (h : Ok t) (a : List Nat) (hok : Ok (picked t a)) (p : List O.Cd) : Tb.keep (picked t a) p = picked t (a.filter (tru t p)) := by
  by_cases h0 : 0 < t.cols.length
  · rw [keep_picked hok]
    unfold hits
    rw [rows_picked h a h0, ← range_filter_map a (tru t p)]
    unfold picked
    show T.mk t.cols ((t.data.map _).map _) = T.mk t.cols (t.data.map _)
    rw [List.map_map]
    refine congrArg (T.mk t.cols) (map_congr' fun l hl => ?_)
    show ((List.range a.length).filter (tru (picked t a) p)).map (fun i => (a.map fun i => l.getD i C.null).getD i C.null) = _
    rw [List.map_map, List.filter_congr (q := fun j => tru t p (a.getD j 0)) (fun j hj => tru_picked t a p (List.mem_range.1 hj))]
    refine map_congr' fun j hj => ?_
    have hj := List.mem_range.1 (List.mem_filter.1 hj).1
    simp [List.getD, List.getElem?_eq_getElem hj]
  · have hd : t.data = [] := List.eq_nil_of_length_eq_zero (by have := h.len; omega)
    unfold Tb.keep picked
    rw [hd]; rfl
theorem ok_picked {t : T} (h : Ok t) (p : List O.Cd) : Ok (picked t (hits t p)) := by rw [← keep_picked h]; exact h.keep p
theorem filter_twice (a : List Nat) (f g : Nat → Bool) : (a.filter f).filter g = a.filter fun x => f x && g x := by
  rw [List.filter_filter]
  exact List.filter_congr fun x _ => Bool.and_comm _ _
theorem cop_alone' (ks : List Int) : O.alone ks ⟨5, 0, C.null⟩ = 0 := by
  unfold O.alone
  rw [if_neg (by show ¬ ((5 : Int) < 1 ∨ 7 < (5 : Int)); omega), if_pos (by show (5 : Int) ≤ 5; omega), if_neg (by show ¬ ((0 : Int) ≠ 0 ∨ C.null ≠ C.null); simp)]
theorem both_check {ks : List Int} {p q : List O.Cd} (hp : O.check p ks = 0) (hq : O.check q ks = 0) (hl : p.length + q.length < 16) : O.check (p ++ q ++ [⟨5, 0, C.null⟩]) ks = 0 := by
  obtain ⟨_, s, hs, rfl⟩ := O.tree hp
  obtain ⟨_, u, hu, rfl⟩ := O.tree hq
  exact O.check_flat (t := .two ⟨5, 0, C.null⟩ s u) ⟨rfl, cop_alone' ks, hs, hu⟩ (by simp [O.flat]; omega)
theorem min_two (x y : Nat) (a : x ≤ 2) (b : y ≤ 2) : decide (min x y = 2) = (decide (x = 2) && decide (y = 2)) := by
  by_cases hx : x = 2
  · by_cases hy : y = 2
    · subst hx; subst hy; rfl
    · rw [decide_eq_false (by omega), decide_eq_false hy]; simp
  · rw [decide_eq_false (by omega), decide_eq_false hx]; rfl
theorem both_tru {t : T} (h : Ok t) {p q : List O.Cd} (hp : O.check p (kinds t) = 0) (hq : O.check q (kinds t) = 0) (hl : p.length + q.length < 16) {i : Nat} (hi : i < Tb.rows t) : tru t (p ++ q ++ [⟨5, 0, C.null⟩]) i = (tru t p i && tru t q i) := by
  obtain ⟨l1, s, hs, rfl⟩ := O.tree hp
  obtain ⟨l2, u, hu, rfl⟩ := O.tree hq
  unfold tru
  have e : O.flat (.two ⟨5, 0, C.null⟩ s u) = O.flat s ++ O.flat u ++ [⟨5, 0, C.null⟩] := rfl
  rw [h.ask hi hs rfl l1, h.ask hi hu rfl l2, h.ask hi (s := .two ⟨5, 0, C.null⟩ s u) ⟨rfl, cop_alone' _, hs, hu⟩ e (by simp; omega)]
  exact min_two _ _ (O.ev_le (O.askL (rowAt t i)) (fun c => O.told_le _ _) s) (O.ev_le (O.askL (rowAt t i)) (fun c => O.told_le _ _) u)
/-- all that TableKeeps asks -/
theorem keeps_law (t : T) (p q : List O.Cd) : ((chg t (keepE t p) (keep t p)).2 ≠ 0 ∧ (chg t (keepE t p) (keep t p)).1 = nul) ∨ ∃ a, chg t (keepE t p) (keep t p) = (a, 0) ∧ chg a (keepE a p) (keep a p) = (a, 0) ∧ Ok a ∧
    ((chg t (keepE t q) (keep t q)).2 ≠ 0 ∨ ∃ b, chg t (keepE t q) (keep t q) = (b, 0) ∧ (p.length + q.length < 16 → ∃ x, chg a (keepE a q) (keep a q) = (x, 0) ∧ chg b (keepE b p) (keep b p) = (x, 0) ∧ chg t (keepE t (p ++ q ++ [⟨5, 0, C.null⟩])) (keep t (p ++ q ++ [⟨5, 0, C.null⟩])) = (x, 0) ∧ Ok x)) := by
  rcases chg_or t (keepE t p) (keep t p) with hx | ⟨h1, h2, h3⟩
  · exact Or.inl hx
  · have h := check_ok h1
    refine Or.inr ⟨_, h3, ?_, h.keep p, ?_⟩
    · rw [chg_ok (ok_check (h.keep p)) (show keepE (Tb.keep t p) p = 0 from h2), keep_picked h, keep_pick h _ (ok_picked h p)]
      unfold hits
      rw [filter_twice]; simp
    · rcases chg_or t (keepE t q) (keep t q) with hx | ⟨_, k2, k3⟩
      · exact Or.inl hx.1
      · refine Or.inr ⟨_, k3, fun hl => ⟨_, chg_ok (ok_check (h.keep p)) k2, ?_, ?_, (h.keep p).keep q⟩⟩
        · rw [chg_ok (ok_check (h.keep q)) (show keepE (Tb.keep t q) p = 0 from h2), keep_picked h p, keep_picked h q, keep_pick h _ (ok_picked h p), keep_pick h _ (ok_picked h q)]
          unfold hits
          rw [filter_twice, filter_twice]
          congr 2
          exact List.filter_congr fun x _ => Bool.and_comm _ _
        · rw [chg_ok h1 (show keepE t (p ++ q ++ [⟨5, 0, C.null⟩]) = 0 from both_check h2 k2 hl), keep_picked h p, keep_pick h _ (ok_picked h p), keep_picked h]
          unfold hits
          rw [filter_twice]
          congr 2
          exact List.filter_congr fun x hx => both_tru h h2 k2 hl (List.mem_range.1 hx)
end Go.Proofs.Ytnjnalehfhfefaa.Tb
