/- Plain laws of tables: cells that are redacted. -/
import Derived.Test.YtnjnalehfhfefaaTbLawK
namespace Go.Proofs.Ytnjnalehfhfefaa.Tb
set_option linter.unusedVariables false

theorem nulled_len' : ∀ (l : List C.Cl) (m : List Bool), (nulled l m).length = l.length
  | [], _ => rfl
  | x :: l, [] => rfl
  | x :: l, b :: m => by rw [nulled, List.length_cons, List.length_cons, nulled_len' l m]
theorem nulled_mem : ∀ (l : List C.Cl) (m : List Bool), ∀ x ∈ nulled l m, x ∈ l ∨ x = C.null
  | [], _, x, hx => Or.inl hx
  | y :: l, [], x, hx => Or.inl hx
  | y :: l, b :: m, x, hx => by
    rw [nulled] at hx
    rcases List.mem_cons.1 hx with rfl | hx
    · cases b
      · exact Or.inl (by simp)
      · exact Or.inr rfl
    · rcases nulled_mem l m x hx with h | h
      · exact Or.inl (by simp [h])
      · exact Or.inr h
theorem nulled_getD : ∀ (l : List C.Cl) (m : List Bool) (i : Nat), i < l.length → i < m.length → (nulled l m).getD i C.null = if m.getD i false then C.null else l.getD i C.null
  | [], _, _, h, _ => by simp at h
  | x :: l, [], _, _, h => by simp at h
  | x :: l, b :: m, 0, _, _ => by simp [nulled, List.getD]
  | x :: l, b :: m, i + 1, h, h2 => by
    have := nulled_getD l m i (by simpa using h) (by simpa using h2)
    exact this
theorem nulled_twice : ∀ (l : List C.Cl) (m : List Bool), nulled (nulled l m) m = nulled l m
  | [], m => by cases m <;> rfl
  | x :: l, [] => rfl
  | x :: l, b :: m => by
    rw [nulled, nulled, nulled_twice l m]
    cases b <;> rfl
theorem chk_null {k : Int} (h : k = 1 ∨ k = 2) : C.chk k [C.null] = 0 := by
  rcases h with rfl | rfl <;> decide
theorem red_cols (t : T) (n : List UInt8) (p : List O.Cd) : (red t n p).cols = t.cols := rfl
theorem red_dat {t : T} (h : Ok t) {n : List UInt8} (hn : has t.cols n) (p : List O.Cd) (i : Nat) : (red t n p).data.getD i [] = if i = pos t.cols n then nulled (t.data.getD (pos t.cols n) []) (marks t p) else t.data.getD i [] :=
  getD_set _ _ _ _ _ (by rw [h.len]; exact hn)
theorem red_sub {t : T} (h : Ok t) {n : List UInt8} (hn : has t.cols n) (p : List O.Cd) : Sub t (red t n p) := by
  have hl : ∀ i, i < t.cols.length → ((red t n p).data.getD i []).length = (t.data.getD i []).length := by
    intro i hi
    rw [red_dat h hn]
    split
    · rename_i e; rw [nulled_len', e]
    · rfl
  refine ⟨rfl, by simp [red], ?_, ?_, ?_⟩
  · intro i hi; rw [hl i hi]; exact Nat.le_refl _
  · intro i hi x hx
    rw [red_dat h hn] at hx
    split at hx
    · rename_i e
      rcases nulled_mem _ _ x hx with h1 | rfl
      · left; rw [e]; exact h1
      · right; exact chk_null (h.kind i hi)
    · exact Or.inl hx
  · intro i hi
    rw [hl i hi, hl 0 (by omega), h.rows i hi]; rfl
theorem Ok.red {t : T} (h : Ok t) {n : List UInt8} (hn : has t.cols n) (p : List O.Cd) : Ok (Tb.red t n p) := (red_sub h hn p).ok h
theorem rows_red {t : T} (h : Ok t) {n : List UInt8} (hn : has t.cols n) (p : List O.Cd) : Tb.rows (Tb.red t n p) = Tb.rows t := by
  have h0 : 0 < t.cols.length := Nat.lt_of_le_of_lt (Nat.zero_le _) hn
  have := (h.red hn p).rows 0 h0
  unfold Tb.rows
  rw [red_dat h hn]
  split
  · rename_i e; rw [nulled_len', ← e]
  · rfl
theorem marks_getD (t : T) (p : List O.Cd) {i : Nat} (hi : i < Tb.rows t) : (marks t p).getD i false = tru t p i := by
  unfold marks
  simp [List.getD, hi]
theorem set_map {α β : Type} (f : α → β) (l : List α) (i : Nat) (a : α) : (l.set i a).map f = (l.map f).set i (f a) := List.map_set
theorem set_same {α : Type} (l : List α) (i : Nat) (z : α) (h : i < l.length) : l.set i (l.getD i z) = l := by
  rw [show l.getD i z = l[i] by simp [List.getD, List.getElem?_eq_getElem h]]
  exact List.set_getElem_self h
theorem rowAt_red {t : T} (h : Ok t) {n : List UInt8} (hn : has t.cols n) (p : List O.Cd) {i : Nat} (hi : i < Tb.rows t) : rowAt (Tb.red t n p) i = if tru t p i then (rowAt t i).set (pos t.cols n) C.null else rowAt t i := by
  have hl : i < (t.data.getD (pos t.cols n) []).length := by rw [h.rows _ hn]; exact hi
  unfold rowAt Tb.red
  show (t.data.set (pos t.cols n) _).map _ = _
  rw [set_map, nulled_getD _ _ _ hl (by rw [marks_len]; exact hi), marks_getD t p hi]
  cases tru t p i
  · simp only [Bool.false_eq_true, if_false]
    have := set_same (t.data.map fun l => l.getD i C.null) (pos t.cols n) C.null (by rw [List.length_map, h.len]; exact hn)
    rw [getD_map (fun l : List C.Cl => l.getD i C.null) t.data _ [] C.null (by simp)] at this
    exact this
  · simp only [if_true]
/-- does it ask of a column? -/
def ownC (p : List O.Cd) (k : Nat) : Bool := p.any fun c => decide (c.op ≤ 4) && decide (c.col = (k : Int))
theorem ev_other {ks : List Int} (row : List C.Cl) (k : Nat) (x : C.Cl) : ∀ s : O.T, O.ok ks s → ownC (O.flat s) k = false → O.ev (O.askL (row.set k x)) O.jo s = O.ev (O.askL row) O.jo s
  | .leaf c, h, ho => by
    obtain ⟨h1, h2⟩ := h
    have hop : 1 ≤ c.op ∧ c.op ≤ 4 ∧ 0 ≤ c.col := by
      rcases O.parts_cases c.op with ⟨_, a, b, d⟩ | ⟨a, b⟩ | ⟨a, b⟩
      · unfold O.alone at h2
        by_cases e1 : c.op < 1 ∨ 7 < c.op
        · rw [if_pos e1] at h2; exact absurd h2 (by decide)
        · rw [if_neg e1] at h2
          rw [if_neg (by omega)] at h2
          by_cases e2 : c.col < 0 ∨ (ks.length : Int) ≤ c.col
          · rw [if_pos e2] at h2; exact absurd h2 (by decide)
          · omega
      · omega
      · omega
    have hc : c.col ≠ (k : Int) := by
      simp only [ownC, O.flat, List.any_cons, List.any_nil, Bool.or_false] at ho
      intro e
      rw [decide_eq_true hop.2.1, decide_eq_true e] at ho
      cases ho
    have hn : c.col.toNat ≠ k := by omega
    show O.told c ((row.set k x).getD c.col.toNat C.null) = O.told c (row.getD c.col.toNat C.null)
    congr 1
    simp [List.getD, Ne.symm hn]
  | .one c s, h, ho => by
    simp only [ownC, O.flat, List.any_append, Bool.or_eq_false_iff] at ho
    have e := ev_other row k x s h.2.2 ho.1
    show O.jo c.op _ _ = O.jo c.op _ _
    rw [e]
  | .two c s u, h, ho => by
    simp only [ownC, O.flat, List.any_append, Bool.or_eq_false_iff] at ho
    have e := ev_other row k x s h.2.2.1 ho.1.1
    have e2 := ev_other row k x u h.2.2.2 ho.1.2
    show O.jo c.op _ _ = O.jo c.op _ _
    rw [e, e2]
theorem redE_zero {t : T} {n : List UInt8} {p : List O.Cd} (h : redE t n p = 0) : has t.cols n ∧ O.check p (kinds t) = 0 := by
  unfold redE at h
  by_cases h1 : ¬ has t.cols n
  · rw [if_pos h1] at h; exact absurd h (by decide)
  · rw [if_neg h1] at h; exact ⟨Classical.not_not.1 h1, h⟩
theorem red_red {t : T} (h : Ok t) {n : List UInt8} {p : List O.Cd} (hz : redE t n p = 0) (ho : ownC p (pos t.cols n) = false) : Tb.red (Tb.red t n p) n p = Tb.red t n p := by
  obtain ⟨hn, hp⟩ := redE_zero hz
  obtain ⟨l1, s, hs, rfl⟩ := O.tree hp
  have hr := rows_red h hn (O.flat s)
  have hm : marks (Tb.red t n (O.flat s)) (O.flat s) = marks t (O.flat s) := by
    unfold marks
    rw [hr]
    refine map_congr' fun i hi => ?_
    have hi := List.mem_range.1 hi
    unfold tru
    have e1 := h.ask hi hs rfl l1
    have e2 := (h.red hn (O.flat s)).ask (i := i) (by rw [hr]; exact hi) (s := s) hs rfl l1
    rw [e1, e2, rowAt_red h hn _ hi]
    cases tru t (O.flat s) i
    · rfl
    · simp only [if_true]
      rw [ev_other _ _ _ s hs ho]
  have hd := red_dat h hn (O.flat s) (pos t.cols n)
  rw [if_pos rfl] at hd
  show T.mk t.cols ((Tb.red t n (O.flat s)).data.set (pos t.cols n) (nulled ((Tb.red t n (O.flat s)).data.getD (pos t.cols n) []) (marks (Tb.red t n (O.flat s)) (O.flat s)))) = _
  rw [hm, hd, nulled_twice]
  show T.mk t.cols ((t.data.set (pos t.cols n) _).set (pos t.cols n) _) = T.mk t.cols _
  rw [List.set_set]
/-- all that TableRedacts asks -/
theorem redacts_law (t : T) (n : List UInt8) (p : List O.Cd) : ((chg t (redE t n p) (red t n p)).2 ≠ 0 ∧ (chg t (redE t n p) (red t n p)).1 = nul) ∨ ∃ a b, chg t (redE t n p) (red t n p) = (a, 0) ∧ Ok t ∧ Ok a ∧ has t.cols n ∧
    (∀ i : Nat, i < Tb.rows t → (O.askR p (kinds t) (rowAt t i)).2 = 0 ∧ rowR a i = (if (O.askR p (kinds t) (rowAt t i)).1 = 2 then (rowAt t i).set (pos t.cols n) C.null else rowAt t i, 0)) ∧
    chg a (redE a n p) (red a n p) = (b, 0) ∧ Ok b ∧ (ownC p (pos t.cols n) = false → b = a) := by
  rcases chg_or t (redE t n p) (red t n p) with hx | ⟨h1, h2, h3⟩
  · exact Or.inl hx
  · have h := check_ok h1
    obtain ⟨hn, hp⟩ := redE_zero h2
    have ha := h.red hn p
    refine Or.inr ⟨_, _, h3, h, ha, hn, ?_, chg_ok (ok_check ha) (show redE (Tb.red t n p) n p = 0 from h2), ha.red hn p, fun ho => red_red h h2 ho⟩
    intro i hi
    obtain ⟨l1, s, hs, hf⟩ := O.tree hp
    have e1 := h.ask hi hs hf l1
    constructor
    · rw [e1]
    · unfold rowR
      rw [if_neg (by rw [ok_check ha]; simp), if_neg (by rw [rows_red h hn]; omega)]
      rw [show ((i : Int).toNat) = i by simp, rowAt_red h hn p hi]
      have : tru t p i = decide ((O.askR p (kinds t) (rowAt t i)).1 = 2) := rfl
      rw [this]
      by_cases e : (O.askR p (kinds t) (rowAt t i)).1 = 2
      · rw [decide_eq_true e, if_pos rfl, if_pos e]
      · rw [decide_eq_false e, if_neg (by simp), if_neg e]
end Go.Proofs.Ytnjnalehfhfefaa.Tb
