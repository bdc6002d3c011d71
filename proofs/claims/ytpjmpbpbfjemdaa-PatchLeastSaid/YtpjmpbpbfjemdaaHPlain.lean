/- Plain mathematics of runs and blocks. -/
import Derived.Test.YtpjmpbpbfjemdaaVaryPlain
import Derived.Test.YtpjmpbpbfjemdaaBitsPlain
namespace Go.Proofs.Ytpjmpbpbfjemdaa.H
set_option linter.unusedVariables false

def rowF (x : Nat) : List Nat → Nat
  | [] => 0
  | y :: l => if y = x then rowF x l + 1 else 0
def row (l : List Nat) : Nat := rowF (l.headD 0) l

theorem rowF_le (x : Nat) (l : List Nat) : rowF x l ≤ l.length := by
  induction l with
  | nil => simp [rowF]
  | cons y l ih => simp only [rowF, List.length_cons]; split <;> omega
theorem row_le (l : List Nat) : row l ≤ l.length := rowF_le _ _
theorem rowF_step (x : Nat) (l : List Nat) (k : Nat) (hk : k ≤ rowF x l) (hl : k < l.length) :
    (l.getD k 0 = x → k + 1 ≤ rowF x l) ∧ (l.getD k 0 ≠ x → rowF x l = k) := by
  induction l generalizing k with
  | nil => simp at hl
  | cons y l ih =>
    cases k with
    | zero => constructor <;> intro h <;> simp only [List.getD_cons_zero] at h <;> simp [rowF, h]
    | succ k =>
      simp only [rowF] at hk ⊢
      by_cases h : y = x
      · rw [if_pos h] at hk ⊢
        have := ih k (by omega) (by simpa using hl)
        simp only [List.getD_cons_succ]
        exact ⟨fun e => by have := this.1 e; omega, fun e => by have := this.2 e; omega⟩
      · rw [if_neg h] at hk; omega
theorem rowF_all (x : Nat) (l : List Nat) : ∀ i, i < rowF x l → l.getD i 0 = x := by
  induction l with
  | nil => intro i hi; simp [rowF] at hi
  | cons y l ih =>
    intro i hi
    simp only [rowF] at hi
    by_cases h : y = x
    · rw [if_pos h] at hi
      cases i with
      | zero => simpa using h
      | succ i => simpa using ih i (by omega)
    · rw [if_neg h] at hi; omega
theorem row_pos (l : List Nat) (h : l ≠ []) : 1 ≤ row l := by
  cases l with
  | nil => exact absurd rfl h
  | cons y l => simp [row, rowF]
theorem rowF_take (x : Nat) (l : List Nat) : l.take (rowF x l) = List.replicate (rowF x l) x := by
  induction l with
  | nil => simp [rowF]
  | cons y l ih =>
    simp only [rowF]
    by_cases h : y = x
    · rw [if_pos h, List.take_succ_cons, List.replicate_succ, ih, h]
    · rw [if_neg h]; simp
theorem row_take (l : List Nat) : l.take (row l) = List.replicate (row l) (l.headD 0) := rowF_take _ _

def looseF : Nat → List Nat → Nat
  | 0, _ => 0
  | f + 1, l => if l = [] ∨ 8 ≤ row l then 0 else min 8 l.length + looseF f (l.drop 8)
def loose (l : List Nat) : Nat := looseF l.length l

theorem looseF_fuel (f : Nat) : ∀ (l : List Nat), l.length ≤ f → looseF f l = looseF l.length l := by
  have key : ∀ (f g : Nat) (l : List Nat), l.length ≤ f → l.length ≤ g → looseF f l = looseF g l := by
    intro f
    induction f with
    | zero =>
      intro g l h1 h2
      obtain rfl : l = [] := List.eq_nil_of_length_eq_zero (by omega)
      cases g <;> simp [looseF]
    | succ f ih =>
      intro g l h1 h2
      cases g with
      | zero =>
        obtain rfl : l = [] := List.eq_nil_of_length_eq_zero (by omega)
        simp [looseF]
      | succ g =>
        simp only [looseF]
        by_cases h : l = [] ∨ 8 ≤ row l
        · rw [if_pos h, if_pos h]
        · rw [if_neg h, if_neg h]
          have hl : 1 ≤ l.length := List.length_pos_iff.2 (fun e => h (Or.inl e))
          rw [ih g (l.drop 8) (by rw [List.length_drop]; omega) (by rw [List.length_drop]; omega)]
  exact fun l h => key f l.length l h (Nat.le_refl _)
theorem loose_eq (l : List Nat) : loose l = if l = [] ∨ 8 ≤ row l then 0 else min 8 l.length + loose (l.drop 8) := by
  unfold loose
  cases hl : l.length with
  | zero =>
    obtain rfl : l = [] := List.eq_nil_of_length_eq_zero hl
    simp [looseF]
  | succ n =>
    simp only [looseF]
    by_cases h : l = [] ∨ 8 ≤ row l
    · rw [if_pos h, if_pos h]
    · rw [if_neg h, if_neg h, looseF_fuel n _ (by rw [List.length_drop]; omega), hl]
theorem loose_stop (l : List Nat) (h : l = [] ∨ 8 ≤ row l) : loose l = 0 := by rw [loose_eq, if_pos h]
theorem loose_go (l : List Nat) (h : ¬ (l = [] ∨ 8 ≤ row l)) : loose l = min 8 l.length + loose (l.drop 8) := by rw [loose_eq, if_neg h]
theorem loose_le (l : List Nat) : loose l ≤ l.length := by
  suffices h : ∀ n (l : List Nat), l.length ≤ n → loose l ≤ l.length from h _ l (Nat.le_refl _)
  intro n
  induction n with
  | zero =>
    intro l hl
    obtain rfl : l = [] := List.eq_nil_of_length_eq_zero (by omega)
    rw [loose_stop _ (Or.inl rfl)]; omega
  | succ n ih =>
    intro l hl
    by_cases h : l = [] ∨ 8 ≤ row l
    · rw [loose_stop l h]; omega
    · rw [loose_go l h]
      have hp : 1 ≤ l.length := List.length_pos_iff.2 (fun e => h (Or.inl e))
      have := ih (l.drop 8) (by rw [List.length_drop]; omega)
      rw [List.length_drop] at this; omega
theorem loose_pos (l : List Nat) (h : ¬ (l = [] ∨ 8 ≤ row l)) : 1 ≤ loose l := by
  have hp : 1 ≤ l.length := List.length_pos_iff.2 (fun e => h (Or.inl e))
  rw [loose_go l h]; omega
/-- blocks are full, but for the last one -/
theorem loose_full (l : List Nat) : loose l % 8 = 0 ∨ loose l = l.length := by
  suffices h : ∀ n (l : List Nat), l.length ≤ n → loose l % 8 = 0 ∨ loose l = l.length from h _ l (Nat.le_refl _)
  intro n
  induction n with
  | zero =>
    intro l hl
    obtain rfl : l = [] := List.eq_nil_of_length_eq_zero (by omega)
    rw [loose_stop _ (Or.inl rfl)]; simp
  | succ n ih =>
    intro l hl
    by_cases h : l = [] ∨ 8 ≤ row l
    · rw [loose_stop l h]; simp
    · rw [loose_go l h]
      have hp : 1 ≤ l.length := List.length_pos_iff.2 (fun e => h (Or.inl e))
      have := ih (l.drop 8) (by rw [List.length_drop]; omega)
      rw [List.length_drop] at this
      have h2 := loose_le (l.drop 8)
      rw [List.length_drop] at h2
      omega

inductive Part where
  | run (n m : Nat)
  | blk (l : List Nat)
deriving DecidableEq

def nb (n : Nat) : Nat := (n + 7) / 8
def pad (l : List Nat) : List Nat := l ++ List.replicate (8 * nb l.length - l.length) 0
theorem pad_length (l : List Nat) : (pad l).length = nb l.length * 8 := by simp [pad, nb]; omega
theorem pad_mem (l : List Nat) (w : Nat) (h : ∀ x ∈ l, x < 2 ^ w) : ∀ x ∈ pad l, x < 2 ^ w := by
  intro x hx
  rcases List.mem_append.1 hx with hx | hx
  · exact h x hx
  · rw [List.eq_of_mem_replicate hx]; exact B.pos2 w
/-- numbers, packed -/
def pkd (w : Nat) (l : List Nat) : List UInt8 := B.le (B.sz (l.length * w)) (B.pk w l)
theorem pkd_length (w : Nat) (l : List Nat) : (pkd w l).length = B.sz (l.length * w) := B.le_length _ _

def Part.nums : Part → List Nat
  | .run n m => List.replicate m n
  | .blk l => l
def Part.bytes (w : Nat) : Part → List UInt8
  | .run n m => V.enc (2 * m) ++ pkd w [n]
  | .blk l => V.enc (2 * nb l.length + 1) ++ pkd w (pad l)

def partsF : Nat → List Nat → List Part
  | 0, _ => []
  | f + 1, l => if l = [] then [] else if 8 ≤ row l then .run (l.headD 0) (row l) :: partsF f (l.drop (row l))
      else .blk (l.take (loose l)) :: partsF f (l.drop (loose l))
def parts (l : List Nat) : List Part := partsF l.length l
theorem partsF_fuel (f : Nat) : ∀ (g : Nat) (l : List Nat), l.length ≤ f → l.length ≤ g → partsF f l = partsF g l := by
  induction f with
  | zero =>
    intro g l h1 h2
    obtain rfl : l = [] := List.eq_nil_of_length_eq_zero (by omega)
    cases g <;> simp [partsF]
  | succ f ih =>
    intro g l h1 h2
    cases g with
    | zero =>
      obtain rfl : l = [] := List.eq_nil_of_length_eq_zero (by omega)
      simp [partsF]
    | succ g =>
      simp only [partsF]
      by_cases h0 : l = []
      · rw [if_pos h0, if_pos h0]
      rw [if_neg h0, if_neg h0]
      by_cases h : 8 ≤ row l
      · rw [if_pos h, if_pos h, ih g _ (by rw [List.length_drop]; omega) (by rw [List.length_drop]; omega)]
      · rw [if_neg h, if_neg h]
        have := loose_pos l (fun e => e.elim h0 h)
        rw [ih g _ (by rw [List.length_drop]; omega) (by rw [List.length_drop]; omega)]
theorem parts_nil : parts [] = [] := rfl
theorem parts_run (l : List Nat) (h0 : l ≠ []) (h : 8 ≤ row l) : parts l = .run (l.headD 0) (row l) :: parts (l.drop (row l)) := by
  unfold parts
  obtain ⟨n, hn⟩ : ∃ n, l.length = n + 1 := ⟨l.length - 1, by have := List.length_pos_iff.2 h0; omega⟩
  rw [hn]
  simp only [partsF]
  rw [if_neg h0, if_pos h, partsF_fuel n _ (l.drop (row l)) (by rw [List.length_drop]; omega) (Nat.le_refl _)]
theorem parts_blk (l : List Nat) (h0 : l ≠ []) (h : ¬ 8 ≤ row l) : parts l = .blk (l.take (loose l)) :: parts (l.drop (loose l)) := by
  unfold parts
  obtain ⟨n, hn⟩ : ∃ n, l.length = n + 1 := ⟨l.length - 1, by have := List.length_pos_iff.2 h0; omega⟩
  rw [hn]
  simp only [partsF]
  have := loose_pos l (fun e => e.elim h0 h)
  rw [if_neg h0, if_neg h, partsF_fuel n _ (l.drop (loose l)) (by rw [List.length_drop]; omega) (Nat.le_refl _)]

def bytes (w : Nat) (l : List Nat) : List UInt8 := (parts l).flatMap (Part.bytes w)
theorem bytes_nil (w : Nat) : bytes w [] = [] := rfl
theorem bytes_run (w : Nat) (l : List Nat) (h0 : l ≠ []) (h : 8 ≤ row l) : bytes w l = Part.bytes w (.run (l.headD 0) (row l)) ++ bytes w (l.drop (row l)) := by
  unfold bytes; rw [parts_run l h0 h]; rfl
theorem bytes_blk (w : Nat) (l : List Nat) (h0 : l ≠ []) (h : ¬ 8 ≤ row l) : bytes w l = Part.bytes w (.blk (l.take (loose l))) ++ bytes w (l.drop (loose l)) := by
  unfold bytes; rw [parts_blk l h0 h]; rfl

/-- lists by their parts -/
theorem parts_ind (P : List Nat → Prop) (h0 : P []) (hr : ∀ l, l ≠ [] → 8 ≤ row l → P (l.drop (row l)) → P l) (hb : ∀ l, l ≠ [] → ¬ 8 ≤ row l → P (l.drop (loose l)) → P l) : ∀ l, P l := by
  intro l
  suffices h : ∀ n (l : List Nat), l.length ≤ n → P l from h _ l (Nat.le_refl _)
  intro n
  induction n with
  | zero => intro l hl; obtain rfl : l = [] := List.eq_nil_of_length_eq_zero (by omega); exact h0
  | succ n ih =>
    intro l hl
    by_cases e : l = []
    · subst e; exact h0
    by_cases h : 8 ≤ row l
    · exact hr l e h (ih _ (by rw [List.length_drop]; omega))
    · have := loose_pos l (fun x => x.elim e h)
      exact hb l e h (ih _ (by rw [List.length_drop]; omega))

/- reading -/
def held (h : Nat) : Nat := if h % 2 = 1 then h / 2 * 8 else 1
def fit (h left : Nat) : Nat := if h / 2 = 0 then 1 else if (if h % 2 = 1 then nb left else left) < h / 2 then 2 else 0
def body (d : List UInt8) (h left w e : Nat) : Nat × Part × Nat :=
  if B.leN d / 2 ^ (held h * w) ≠ 0 then (1, .blk [], 0)
  else if h % 2 = 0 then (0, .run ((B.dg w 1 (B.leN d)).headD 0) (h / 2), e)
  else if B.wd ((B.dg w (held h) (B.leN d)).drop (min left (held h))) ≠ 0 then (1, .blk [], 0)
  else (0, .blk ((B.dg w (held h) (B.leN d)).take (min left (held h))), e)
def firstL (s : List UInt8) (h fr left w : Nat) : Nat × Part × Nat :=
  if fit h left ≠ 0 then (fit h left, .blk [], 0)
  else if s.length < fr + B.sz (held h * w) then (5, .blk [], 0)
  else body ((s.drop fr).take (B.sz (held h * w))) h left w (fr + B.sz (held h * w))
def first (s : List UInt8) (left w : Nat) : Nat × Part × Nat :=
  if (V.rd s).2.2 ≠ 0 then ((V.rd s).2.2, .blk [], 0) else firstL s (V.rd s).1 (V.rd s).2.1 left w

def pre (xs : List Nat) (q : List Nat × Nat) : List Nat × Nat := if q.2 ≠ 0 then ([], q.2) else (xs ++ q.1, 0)
theorem pre_nil (q : List Nat × Nat) (h : q.2 ≠ 0 → q.1 = []) : pre [] q = q := by
  obtain ⟨a, b⟩ := q
  unfold pre
  by_cases e : b = 0
  · subst e; simp
  · rw [if_pos e]; simp only at h; rw [h e]
theorem pre_pre (xs ys : List Nat) (q : List Nat × Nat) : pre xs (pre ys q) = pre (xs ++ ys) q := by
  unfold pre
  by_cases e : q.2 = 0 <;> simp [e]

def readF : Nat → List UInt8 → Nat → Nat → List Nat × Nat
  | 0, _, _, _ => ([], 0)
  | f + 1, s, left, w => if left = 0 then ([], if s = [] then 0 else 1)
    else if (first s left w).1 ≠ 0 then ([], (first s left w).1)
    else pre (first s left w).2.1.nums (readF f (s.drop (first s left w).2.2) (left - (first s left w).2.1.nums.length) w)
def read (s : List UInt8) (many w : Nat) : List Nat × Nat := readF (many + 1) s many w

theorem first_grows (s : List UInt8) (left w : Nat) (hl : 1 ≤ left) (h : (first s left w).1 = 0) :
    1 ≤ (first s left w).2.1.nums.length ∧ (first s left w).2.1.nums.length ≤ left := by
  unfold first at h ⊢
  by_cases h1 : (V.rd s).2.2 = 0
  · rw [if_neg (by simp [h1])] at h ⊢
    generalize (V.rd s).1 = hd at *
    generalize (V.rd s).2.1 = fr at *
    unfold firstL at h ⊢
    by_cases h2 : fit hd left = 0
    · rw [if_neg (by simp [h2])] at h ⊢
      by_cases h3 : s.length < fr + B.sz (held hd * w)
      · rw [if_pos h3] at h; simp at h
      rw [if_neg h3] at h ⊢
      have hf : 1 ≤ hd / 2 ∧ (hd % 2 = 0 → hd / 2 ≤ left) := by
        unfold fit at h2
        by_cases a : hd / 2 = 0
        · rw [if_pos a] at h2; simp at h2
        rw [if_neg a] at h2
        refine ⟨by omega, fun e => ?_⟩
        by_cases b : (if hd % 2 = 1 then nb left else left) < hd / 2
        · rw [if_pos b] at h2; simp at h2
        · rw [if_neg (by omega)] at b; omega
      unfold body at h ⊢
      generalize (s.drop fr).take (B.sz (held hd * w)) = d at *
      by_cases h4 : B.leN d / 2 ^ (held hd * w) = 0
      · rw [if_neg (by simp [h4])] at h ⊢
        by_cases h5 : hd % 2 = 0
        · rw [if_pos h5] at h ⊢
          simp only [Part.nums, List.length_replicate]; exact ⟨hf.1, hf.2 h5⟩
        · rw [if_neg h5] at h ⊢
          by_cases h6 : B.wd ((B.dg w (held hd) (B.leN d)).drop (min left (held hd))) = 0
          · rw [if_neg (by simp [h6])] at h ⊢
            simp only [Part.nums, List.length_take, B.dg_length]
            have : 8 ≤ held hd := by unfold held; rw [if_pos (by omega)]; omega
            omega
          · rw [if_pos h6] at h; simp at h
      · rw [if_pos h4] at h; simp at h
    · rw [if_pos h2] at h; exact absurd h h2
  · rw [if_pos h1] at h; exact absurd h h1

theorem readF_fuel (f : Nat) : ∀ (g : Nat) (s : List UInt8) (left w : Nat), left < f → left < g → readF f s left w = readF g s left w := by
  induction f with
  | zero => intro g s left w h; omega
  | succ f ih =>
    intro g s left w h1 h2
    cases g with
    | zero => omega
    | succ g =>
      simp only [readF]
      by_cases h0 : left = 0
      · rw [if_pos h0, if_pos h0]
      rw [if_neg h0, if_neg h0]
      by_cases he : (first s left w).1 = 0
      · have := first_grows s left w (by omega) he
        rw [if_neg (by simp [he]), if_neg (by simp [he]), ih g _ _ w (by omega) (by omega)]
      · rw [if_pos he, if_pos he]
theorem read_zero (s : List UInt8) (w : Nat) : read s 0 w = ([], if s = [] then 0 else 1) := by simp [read, readF]
theorem read_bad (s : List UInt8) (left w : Nat) (hl : 1 ≤ left) (h : (first s left w).1 ≠ 0) : read s left w = ([], (first s left w).1) := by
  simp only [read, readF]
  rw [if_neg (by omega), if_pos h]
theorem read_step (s : List UInt8) (left w : Nat) (hl : 1 ≤ left) (h : (first s left w).1 = 0) :
    read s left w = pre (first s left w).2.1.nums (read (s.drop (first s left w).2.2) (left - (first s left w).2.1.nums.length) w) := by
  have hg := first_grows s left w hl h
  conv => lhs; simp only [read, readF]
  rw [if_neg (by omega), if_neg (by simp [h]), read, readF_fuel left _ _ _ w (by omega) (Nat.lt_succ_self _)]
theorem read_err (s : List UInt8) (left w : Nat) : (read s left w).2 ≠ 0 → (read s left w).1 = [] := by
  unfold read
  generalize left + 1 = f
  cases f with
  | zero => simp [readF]
  | succ f =>
    simp only [readF]
    by_cases h0 : left = 0
    · rw [if_pos h0]; simp
    rw [if_neg h0]
    by_cases he : (first s left w).1 = 0
    · rw [if_neg (by simp [he])]
      unfold pre
      split
      · simp
      · intro h; simp at h
    · rw [if_pos he]; simp
theorem read_length (s : List UInt8) (left w : Nat) (h : (read s left w).2 = 0) : (read s left w).1.length = left := by
  suffices H : ∀ n left s, left ≤ n → (read s left w).2 = 0 → (read s left w).1.length = left from H left left s (Nat.le_refl _) h
  clear h s left
  intro n
  induction n with
  | zero => intro left s hl _; obtain rfl : left = 0 := by omega
            simp [read_zero]
  | succ n ih =>
    intro left s hl h
    by_cases h0 : left = 0
    · subst h0; simp [read_zero]
    by_cases he : (first s left w).1 = 0
    · have hg := first_grows s left w (by omega) he
      rw [read_step s left w (by omega) he] at h ⊢
      have hi := ih (left - (first s left w).2.1.nums.length) (s.drop (first s left w).2.2) (by omega)
      generalize read (s.drop (first s left w).2.2) (left - (first s left w).2.1.nums.length) w = q at *
      unfold pre at h ⊢
      by_cases e : q.2 = 0
      · rw [if_neg (by simp [e])]
        simp only [List.length_append, hi e]; omega
      · rw [if_pos e] at h; exact absurd h e
    · rw [read_bad s left w (by omega) he] at h; exact absurd h he
end Go.Proofs.Ytpjmpbpbfjemdaa.H
