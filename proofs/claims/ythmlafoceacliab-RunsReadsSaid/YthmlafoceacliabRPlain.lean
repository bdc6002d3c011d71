/- Plain mathematics of runs. -/
import Derived.Lib.Hide
import Derived.WalkKit
namespace Go.Proofs.Ythmlafoceacliab.R
set_option linter.unusedVariables false

abbrev Run := Nat × Int

def addR : List Run → Run → List Run
  | [], s => [s]
  | [p], s => if p.1 = s.1 then [(p.1, p.2 + s.2)] else [p, s]
  | p :: q :: l, s => p :: addR (q :: l) s
def consR (r : Run) : List Run → List Run
  | [] => [r]
  | p :: l => if p.1 = r.1 then (p.1, r.2 + p.2) :: l else r :: p :: l
def joinR (rs : List Run) : List Run := rs.foldl addR []
def rle (l : List Nat) : List Run := joinR (l.map fun x => (x, 1))

theorem addR_two (p q : Run) (l : List Run) (s : Run) : addR (p :: q :: l) s = p :: addR (q :: l) s := rfl
theorem add_cons (r : Run) (l : List Run) (s : Run) : addR (consR r l) s = consR r (addR l s) := by
  match l with
  | [] =>
    simp only [consR, addR]
    by_cases h : r.1 = s.1
    · rw [if_pos h, if_pos h.symm, h]
    · rw [if_neg h, if_neg (Ne.symm h)]
  | [p] =>
    simp only [consR, addR]
    by_cases h : p.1 = r.1
    · rw [if_pos h]
      by_cases h2 : p.1 = s.1
      · simp only [addR, h2, if_true]
        rw [h2] at h
        rw [if_pos h]; simp; omega
      · simp only [addR]
        rw [if_neg h2, if_neg h2]
        exact (if_pos h).symm
    · rw [if_neg h]
      simp only [addR]
      by_cases h2 : p.1 = s.1
      · rw [if_pos h2]; exact (if_neg h).symm
      · rw [if_neg h2]; exact (if_neg h).symm
  | p :: q :: l =>
    simp only [consR, addR_two]
    by_cases h : p.1 = r.1
    · rw [if_pos h, if_pos h]; rfl
    · rw [if_neg h, if_neg h]; rfl
theorem foldl_cons (rs : List Run) : ∀ (r : Run) (l : List Run), rs.foldl addR (consR r l) = consR r (rs.foldl addR l) := by
  induction rs with
  | nil => intro r l; rfl
  | cons s rs ih => intro r l; simp only [List.foldl_cons, add_cons, ih]
theorem join_nil : joinR [] = [] := rfl
theorem join_cons (r : Run) (rs : List Run) : joinR (r :: rs) = consR r (joinR rs) := foldl_cons rs r []
theorem join_snoc (rs : List Run) (r : Run) : joinR (rs ++ [r]) = addR (joinR rs) r := by simp [joinR]
theorem rle_nil : rle [] = [] := rfl
theorem rle_cons (x : Nat) (l : List Nat) : rle (x :: l) = consR (x, 1) (rle l) := by unfold rle; rw [List.map_cons, join_cons]
theorem rle_snoc (l : List Nat) (x : Nat) : rle (l ++ [x]) = addR (rle l) (x, 1) := by unfold rle; rw [List.map_append, List.map_cons, List.map_nil, join_snoc]

theorem addR_push (l : List Run) (s : Run) (h : l = [] ∨ (l.getD (l.length - 1) (0, 0)).1 ≠ s.1) : addR l s = l ++ [s] := by
  match l, h with
  | [], _ => rfl
  | [p], h =>
    have h' : p.1 ≠ s.1 := by simpa using h
    simp only [addR]; rw [if_neg h']; rfl
  | p :: q :: l, h =>
    have := addR_push (q :: l) s (Or.inr (by simpa using h))
    rw [addR_two, this]; rfl
theorem addR_set (l : List Run) (s : Run) (h0 : l ≠ []) (h : (l.getD (l.length - 1) (0, 0)).1 = s.1) :
    addR l s = l.set (l.length - 1) ((l.getD (l.length - 1) (0, 0)).1, (l.getD (l.length - 1) (0, 0)).2 + s.2) := by
  match l, h0, h with
  | [p], _, h =>
    have h' : p.1 = s.1 := by simpa using h
    simp only [addR]; rw [if_pos h']; simp
  | p :: q :: l, _, h =>
    have := addR_set (q :: l) s (by simp) (by simpa using h)
    rw [addR_two, this]
    simp
theorem addR_ne (l : List Run) (s : Run) : addR l s ≠ [] := by
  match l with
  | [] => simp [addR]
  | [p] => simp only [addR]; split <;> simp
  | p :: q :: l => simp [addR]
theorem addR_length (l : List Run) (s : Run) : (addR l s).length ≤ l.length + 1 := by
  match l with
  | [] => simp [addR]
  | [p] => simp only [addR]; split <;> simp
  | p :: q :: l => have := addR_length (q :: l) s; simp only [addR, List.length_cons] at *; omega
theorem join_length (rs : List Run) : (joinR rs).length ≤ rs.length := by
  induction rs with
  | nil => simp [joinR]
  | cons r rs ih =>
    rw [join_cons]
    cases hj : joinR rs with
    | nil => simp [consR]
    | cons p l => rw [hj] at ih; simp only [consR]; split <;> simp only [List.length_cons] at * <;> omega

/-- a bound for every run -/
def bnd (K : Int) (l : List Run) : Prop := ∀ p ∈ l, 0 ≤ p.2 ∧ p.2 ≤ K
theorem bnd_add (K k : Int) (l : List Run) (s : Run) (h : bnd K l) (hs : 0 ≤ s.2 ∧ s.2 ≤ k) (hK : 0 ≤ K) : bnd (K + k) (addR l s) := by
  match l, h with
  | [], _ => intro p hp; simp [addR] at hp; subst hp; omega
  | [q], h =>
    have hq := h q (by simp)
    intro p hp
    simp only [addR] at hp
    split at hp
    · simp at hp; subst hp; simp; omega
    · simp at hp; rcases hp with rfl | rfl <;> omega
  | q :: q2 :: l, h =>
    have hq := h q (by simp)
    have := bnd_add K k (q2 :: l) s (fun p hp => h p (by simp at hp ⊢; right; exact hp)) hs hK
    intro p hp
    rw [addR_two] at hp
    rcases List.mem_cons.1 hp with rfl | hp
    · omega
    · exact this p hp

/-- what runs expand to -/
def ex (l : List Run) : List Nat := l.flatMap fun r => List.replicate r.2.toNat r.1
theorem ex_cons (r : Run) (l : List Run) : ex (r :: l) = List.replicate r.2.toNat r.1 ++ ex l := rfl
theorem ex_append (a b : List Run) : ex (a ++ b) = ex a ++ ex b := by simp [ex]
theorem consR_consR (x : Nat) (a b : Int) (L : List Run) : consR (x, a) (consR (x, b) L) = consR (x, a + b) L := by
  cases L with
  | nil => simp [consR]
  | cons p l =>
    simp only [consR]
    by_cases h : p.1 = x
    · rw [if_pos h, if_pos h]; simp only [h, if_true]; rw [Int.add_assoc]
    · rw [if_neg h, if_neg h]; simp
theorem rle_rep (m x : Nat) (t : List Nat) : rle (List.replicate (m + 1) x ++ t) = consR (x, ((m + 1 : Nat) : Int)) (rle t) := by
  induction m with
  | zero => simp [rle_cons]
  | succ m ih =>
    rw [List.replicate_succ, List.cons_append, rle_cons, ih, consR_consR]
    congr 2; omega
theorem join_ex (l : List Run) (h : ∀ p ∈ l, 1 ≤ p.2) : joinR l = rle (ex l) := by
  induction l with
  | nil => rfl
  | cons r l ih =>
    have hr := h r (by simp)
    rw [join_cons, ih (fun p hp => h p (by simp [hp])), ex_cons]
    obtain ⟨m, hm⟩ : ∃ m : Nat, r.2.toNat = m + 1 := ⟨r.2.toNat - 1, by omega⟩
    rw [hm, rle_rep]
    congr 1
    rw [← hm]
    have : ((r.2.toNat : Nat) : Int) = r.2 := by omega
    rw [this]

/-- each run is there, neighbours differ -/
def good : List Run → Prop
  | [] => True
  | [p] => 1 ≤ p.2
  | p :: q :: l => 1 ≤ p.2 ∧ p.1 ≠ q.1 ∧ good (q :: l)
def sumR : List Run → Int
  | [] => 0
  | p :: l => p.2 + sumR l
theorem sum_consR (r : Run) (l : List Run) : sumR (consR r l) = r.2 + sumR l := by
  cases l with
  | nil => rfl
  | cons p l => simp only [consR]; split <;> simp only [sumR] <;> omega
theorem good_tail (p : Run) (l : List Run) (h : good (p :: l)) : good l := by
  cases l with
  | nil => trivial
  | cons q l => exact h.2.2
theorem good_head (p : Run) (l : List Run) (h : good (p :: l)) : 1 ≤ p.2 := by
  cases l with
  | nil => exact h
  | cons q l => exact h.1
theorem good_mem (l : List Run) (h : good l) : ∀ p ∈ l, 1 ≤ p.2 := by
  induction l with
  | nil => simp
  | cons r l ih =>
    intro p hp
    rcases List.mem_cons.1 hp with rfl | hp
    · exact good_head _ _ h
    · exact ih (good_tail _ _ h) p hp
theorem good_consR (r : Run) (l : List Run) (h : good l) (hr : 1 ≤ r.2) : good (consR r l) := by
  cases l with
  | nil => exact hr
  | cons p l =>
    have hp := good_head _ _ h
    simp only [consR]
    by_cases e : p.1 = r.1
    · rw [if_pos e]
      cases l with
      | nil => show 1 ≤ r.2 + p.2; omega
      | cons q l => exact ⟨by simp; omega, h.2.1, h.2.2⟩
    · rw [if_neg e]; exact ⟨hr, Ne.symm e, h⟩
theorem good_rle (l : List Nat) : good (rle l) := by
  induction l with
  | nil => trivial
  | cons x l ih => rw [rle_cons]; exact good_consR _ _ ih (by simp)
theorem sum_rle (l : List Nat) : sumR (rle l) = l.length := by
  induction l with
  | nil => rfl
  | cons x l ih => rw [rle_cons, sum_consR, ih]; simp; omega
theorem ex_consR (r : Run) (l : List Run) (hr : 0 ≤ r.2) (hl : ∀ p ∈ l, 0 ≤ p.2) : ex (consR r l) = List.replicate r.2.toNat r.1 ++ ex l := by
  cases l with
  | nil => rfl
  | cons p l =>
    have hp := hl p (by simp)
    simp only [consR]
    by_cases e : p.1 = r.1
    · rw [if_pos e, ex_cons, ex_cons]
      simp only
      rw [show (r.2 + p.2).toNat = r.2.toNat + p.2.toNat by omega, ← List.replicate_append_replicate, e, List.append_assoc]
    · rw [if_neg e]; rfl
theorem ex_rle (l : List Nat) : ex (rle l) = l := by
  induction l with
  | nil => rfl
  | cons x l ih =>
    rw [rle_cons, ex_consR _ _ (by simp) (fun p hp => by have := good_mem _ (good_rle l) p hp; omega), ih]; rfl
theorem good_join (l : List Run) (h : good l) : joinR l = l := by
  induction l with
  | nil => rfl
  | cons p l ih =>
    rw [join_cons, ih (good_tail _ _ h)]
    cases l with
    | nil => rfl
    | cons q l => simp only [consR]; rw [if_neg (Ne.symm h.2.1)]

/-- are these runs of a list? -/
def chkL (prev : Option Nat) (all : Int) : List Run → Nat
  | [] => 0
  | r :: l => if r.2 < 1 ∨ 64 < r.2 then 3 else if prev = some r.1 then 6 else if 64 < all + r.2 then 2 else chkL (some r.1) (all + r.2) l
def chk (l : List Run) : Nat := chkL none 0 l
theorem chk_good (l : List Run) : ∀ (prev : Option Nat) (all : Int), chkL prev all l = 0 → all ≤ 64 → good l ∧ all + sumR l ≤ 64 ∧ (∀ p ∈ l, p.2 ≤ 64) ∧ (∀ p t, l = p :: t → prev ≠ some p.1) := by
  induction l with
  | nil => intro prev all _ ha; exact ⟨trivial, by simp [sumR]; exact ha, by simp, by simp⟩
  | cons r l ih =>
    intro prev all h ha
    simp only [chkL] at h
    by_cases h1 : r.2 < 1 ∨ 64 < r.2
    · rw [if_pos h1] at h; omega
    rw [if_neg h1] at h
    by_cases h2 : prev = some r.1
    · rw [if_pos h2] at h; omega
    rw [if_neg h2] at h
    by_cases h3 : 64 < all + r.2
    · rw [if_pos h3] at h; omega
    rw [if_neg h3] at h
    obtain ⟨g, hs, hb, hp⟩ := ih _ _ h (by omega)
    refine ⟨?_, by simp only [sumR]; omega, ?_, ?_⟩
    · cases l with
      | nil => show 1 ≤ r.2; omega
      | cons q t => exact ⟨by omega, fun e => hp q t rfl (by rw [e]), g⟩
    · intro p hpm
      rcases List.mem_cons.1 hpm with rfl | hpm
      · omega
      · exact hb p hpm
    · intro p t e; cases e; exact h2
theorem sum_nonneg (l : List Run) (h : good l) : 0 ≤ sumR l := by
  induction l with
  | nil => simp [sumR]
  | cons p l ih => have := good_head _ _ h; have := ih (good_tail _ _ h); simp only [sumR]; omega
theorem good_chk (l : List Run) : ∀ (prev : Option Nat) (all : Int), good l → 0 ≤ all → all + sumR l ≤ 64 → (∀ p t, l = p :: t → prev ≠ some p.1) → chkL prev all l = 0 := by
  induction l with
  | nil => intros; rfl
  | cons r l ih =>
    intro prev all g h0 hs hp
    have hr := good_head _ _ g
    have hn := sum_nonneg l (good_tail _ _ g)
    simp only [sumR] at hs
    simp only [chkL]
    rw [if_neg (by omega), if_neg (hp r l rfl), if_neg (by omega)]
    refine ih _ _ (good_tail _ _ g) (by omega) (by omega) ?_
    intro p t e
    subst e
    intro e2
    exact g.2.1 (by simpa using e2)
theorem chk_facts (l : List Run) (h : chk l = 0) : good l ∧ sumR l ≤ 64 ∧ (∀ p ∈ l, 1 ≤ p.2 ∧ p.2 ≤ 64) := by
  obtain ⟨g, hs, hb, _⟩ := chk_good l none 0 h (by omega)
  exact ⟨g, by omega, fun p hp => ⟨good_mem l g p hp, hb p hp⟩⟩
theorem chk_rle (l : List Nat) (h : l.length ≤ 64) : chk (rle l) = 0 :=
  good_chk _ none 0 (good_rle l) (by omega) (by rw [sum_rle]; omega) (by simp)
theorem ex_length (l : List Run) (h : ∀ p ∈ l, 0 ≤ p.2) : ((ex l).length : Int) = sumR l := by
  induction l with
  | nil => rfl
  | cons r l ih =>
    have hr := h r (by simp)
    rw [ex_cons, List.length_append, List.length_replicate]
    have := ih (fun p hp => h p (by simp [hp]))
    simp only [sumR]; omega
theorem chk_ex_length (l : List Run) (h : chk l = 0) : ((ex l).length : Int) = sumR l ∧ (ex l).length ≤ 64 := by
  obtain ⟨g, hs, hb⟩ := chk_facts l h
  have := ex_length l (fun p hp => by have := hb p hp; omega)
  exact ⟨this, by omega⟩

/-- how many runs -/
theorem rle_head (l : List Nat) : (rle l).head?.map (·.1) = l.head? := by
  cases l with
  | nil => rfl
  | cons x l =>
    rw [rle_cons]
    cases hr : rle l with
    | nil => rfl
    | cons p t => simp only [consR]; split <;> simp_all
theorem rle_len_cons (x : Nat) (l : List Nat) : (rle (x :: l)).length = (rle l).length + if l.head? = some x then 0 else 1 := by
  have hh := rle_head l
  rw [rle_cons]
  cases hr : rle l with
  | nil => rw [hr] at hh; simp at hh; simp [consR, ← hh]
  | cons p t =>
    rw [hr] at hh
    simp only [List.head?_cons, Option.map_some] at hh
    simp only [consR, ← hh]
    by_cases e : p.1 = x
    · simp [e]
    · simp [e]
def less (a b : List Nat) : Nat := if a ≠ [] ∧ b ≠ [] ∧ a.getD (a.length - 1) 0 = b.getD 0 0 then 1 else 0
theorem rle_len_append (a b : List Nat) : (rle (a ++ b)).length + less a b = (rle a).length + (rle b).length := by
  induction a with
  | nil => simp [less, rle_nil]
  | cons x a ih =>
    rw [List.cons_append, rle_len_cons, rle_len_cons]
    cases a with
    | nil =>
      simp only [List.nil_append, rle_nil, List.length_nil]
      cases b with
      | nil => simp [less, rle_nil]
      | cons y b =>
        simp only [less, List.head?_cons, Option.some.injEq]
        by_cases e : x = y
        · simp [e]; omega
        · simp [e, Ne.symm e]; omega
    | cons z a =>
      have hl : less (x :: z :: a) b = less (z :: a) b := by simp [less]
      rw [hl]
      by_cases e : z = x
      · rw [if_pos (show (z :: a ++ b).head? = some x by rw [← e]; rfl), if_pos (show (z :: a).head? = some x by rw [← e]; rfl)]; omega
      · rw [if_neg (show ¬ (z :: a ++ b).head? = some x from fun h => e (by simpa using h)), if_neg (show ¬ (z :: a).head? = some x from fun h => e (by simpa using h))]; omega
end Go.Proofs.Ythmlafoceacliab.R
