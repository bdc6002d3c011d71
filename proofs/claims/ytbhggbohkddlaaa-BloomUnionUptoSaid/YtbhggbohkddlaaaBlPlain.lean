/- Filters as functions from words: what a hash is, what is marked, what may be there. -/
import Derived.Test.YtbhggbohkddlaaaNPlain
namespace Go.Proofs.Ytbhggbohkddlaaa.Bl

theorem fold_snoc {α β : Type} (f : β → α → β) (a : List α) (b : α) (h : β) : (a ++ [b]).foldl f h = f (a.foldl f h) b := by simp
theorem fold_lt {α : Type} (f : Nat → α → Nat) (N : Nat) (hf : ∀ h b, f h b < N) (l : List α) (h : Nat) (hh : h < N) : l.foldl f h < N := by
  induction l generalizing h with
  | nil => simpa using hh
  | cons b l ih => simpa using ih _ (hf h b)
/-- a hash, and a byte more -/
def stp (h b : Nat) : Nat := (h ^^^ b) * 1099511628211 % 18446744073709551616
def stir (h : Nat) (l : List Nat) : Nat := l.foldl stp h
theorem stp_lt (h b : Nat) : stp h b < 18446744073709551616 := by
  unfold stp
  generalize (h ^^^ b) * 1099511628211 = x
  omega
theorem stir_lt (l : List Nat) (h : Nat) (hh : h < 18446744073709551616) : stir h l < 18446744073709551616 := fold_lt stp _ stp_lt l h hh
theorem stir_append (a b : List Nat) (h : Nat) : stir h (a ++ b) = stir (stir h a) b := List.foldl_append
theorem stir_snoc (a : List Nat) (b h : Nat) : stir h (a ++ [b]) = stp (stir h a) b := fold_snoc stp a b h

def eight (n : Nat) : List Nat := [n / 72057594037927936, n / 281474976710656, n / 1099511627776, n / 4294967296, n / 16777216, n / 65536, n / 256, n]
def low (k : Int) : Nat := (k % 256).toNat
theorem low_lt (k : Int) : low k < 256 := by unfold low; omega
theorem low_cast (k : Int) : ((low k : Nat) : Int) = k % 256 := by unfold low; omega
def bytes (c : C.Cl) : List Nat := [low c.kind] ++ (eight c.num).map (fun x => x % 256) ++ c.txt.map UInt8.toNat
def hash (c : C.Cl) : Nat := stir 14695981039346656037 (bytes c)
theorem hash_lt (c : C.Cl) : hash c < 18446744073709551616 := stir_lt _ _ (by omega)

/-- or, with a byte in the lowest eight bits, leaves what is above -/
theorem xor_low (h s : Nat) (hs : s < 256) : (h ^^^ s) = h - h % 256 + (h % 256 ^^^ s) := by
  have hx : (h % 256 ^^^ s) < 256 := Nat.xor_lt_two_pow (n := 8) (Nat.mod_lt _ (by omega)) hs
  have e1 : (h ^^^ s) / 256 = h / 256 := by
    have := Nat.shiftRight_xor_distrib (a := h) (b := s) (i := 8)
    rw [Nat.shiftRight_eq_div_pow, Nat.shiftRight_eq_div_pow, Nat.shiftRight_eq_div_pow] at this
    rw [show (256 : Nat) = 2 ^ 8 from rfl, this, Nat.div_eq_of_lt (show s < 2 ^ 8 from hs), Nat.xor_zero]
  have e2 : (h ^^^ s) % 256 = (h % 256 ^^^ s) := by
    have := Nat.xor_mod_two_pow (a := h) (b := s) (n := 8)
    rw [show (256 : Nat) = 2 ^ 8 from rfl, this, Nat.mod_eq_of_lt (show s < 2 ^ 8 from hs)]
  have := Nat.div_add_mod (h ^^^ s) 256
  have := Nat.div_add_mod h 256
  omega

theorem hash_three (k : Int) (n : Nat) (t : List UInt8) : hash ⟨k, n, t⟩ = stir (stir (stir 14695981039346656037 [low k]) ((eight n).map (fun x => x % 256))) (t.map UInt8.toNat) := by
  unfold hash bytes
  rw [stir_append, stir_append]

abbrev F := Nat → Nat
def none_ : F := fun _ => 0
def fOk (f : F) : Prop := ∀ j, j < 4 → f j < 18446744073709551616
def orf (f g : F) : F := fun j => f j ||| g j
def upd (f : F) (k x : Nat) : F := fun j => if j = k then x else f j
/-- one mark -/
def mk (m : Nat) : F := fun j => if j = m / 64 then 2 ^ (m % 64) else 0
def has (f : F) (m : Nat) : Bool := (f (m / 64)).testBit (m % 64)
def m0 (h : Nat) : Nat := h % 256
def m1 (h : Nat) : Nat := h / 1048576 % 256
def m2 (h : Nat) : Nat := h / 1099511627776 % 256
def put (f : F) (m : Nat) : F := upd f (m / 64) (f (m / 64) ||| 2 ^ (m % 64))
def marks (h : Nat) : F := put (put (put none_ (m0 h)) (m1 h)) (m2 h)
def add (f : F) (c : C.Cl) : F := orf f (marks (hash c))
def fil (f : F) (l : List C.Cl) : F := l.foldl add f
def may (f : F) (c : C.Cl) : Bool := has f (m0 (hash c)) && has f (m1 (hash c)) && has f (m2 (hash c))

theorem orf_ok {f g : F} (hf : fOk f) (hg : fOk g) : fOk (orf f g) := fun j hj => Nat.or_lt_two_pow (n := 64) (hf j hj) (hg j hj)
theorem none_ok : fOk none_ := fun _ _ => by unfold none_; omega
theorem put_ok {f : F} (hf : fOk f) (m : Nat) : fOk (put f m) := by
  intro j hj
  unfold put upd
  split
  · rename_i h
    exact Nat.or_lt_two_pow (n := 64) (hf _ (by omega)) (Nat.pow_lt_pow_right (by omega) (Nat.mod_lt _ (by omega)))
  · exact hf j hj
theorem marks_ok (h : Nat) : fOk (marks h) := put_ok (put_ok (put_ok none_ok _) _) _
theorem add_ok {f : F} (hf : fOk f) (c : C.Cl) : fOk (add f c) := orf_ok hf (marks_ok _)
theorem fil_ok {f : F} (hf : fOk f) (l : List C.Cl) : fOk (fil f l) := by
  induction l generalizing f with
  | nil => exact hf
  | cons c l ih => exact ih (add_ok hf c)
theorem put_eq (f : F) (m : Nat) : put f m = orf f (mk m) := by
  funext j
  unfold put upd orf mk
  by_cases h : j = m / 64
  · rw [if_pos h, if_pos h, h]
  · rw [if_neg h, if_neg h, Nat.or_zero]
theorem orf_assoc (f g h : F) : orf (orf f g) h = orf f (orf g h) := by funext j; exact Nat.or_assoc _ _ _
theorem orf_comm (f g : F) : orf f g = orf g f := by funext j; exact Nat.or_comm _ _
theorem orf_self (f : F) : orf f f = f := by funext j; exact Nat.or_self _
theorem orf_none (f : F) : orf f none_ = f := by funext j; exact Nat.or_zero _
theorem none_orf (f : F) : orf none_ f = f := by funext j; exact Nat.zero_or _
theorem marks_eq (h : Nat) : marks h = orf (orf (mk (m0 h)) (mk (m1 h))) (mk (m2 h)) := by
  unfold marks; rw [put_eq, put_eq, put_eq, none_orf]
/-- the three marks of a cell, one after the other -/
theorem add_put (f : F) (c : C.Cl) : add f c = put (put (put f (m0 (hash c))) (m1 (hash c))) (m2 (hash c)) := by
  unfold add; rw [marks_eq, put_eq, put_eq, put_eq, orf_assoc, orf_assoc, orf_assoc]

theorem has_orf (f g : F) (m : Nat) : has (orf f g) m = (has f m || has g m) := by
  unfold has orf; rw [Nat.testBit_or]
theorem has_mk (m : Nat) : has (mk m) m = true := by
  unfold has mk; rw [if_pos rfl, Nat.testBit_two_pow_self]
theorem has_put (f : F) (m : Nat) : has (put f m) m = true := by rw [put_eq, has_orf, has_mk, Bool.or_true]
theorem mod_succ (x k : Nat) : x % 2 ^ (k + 1) = x % 2 ^ k + (if x.testBit k = true then 2 ^ k else 0) := by
  rw [Nat.pow_succ, Nat.mod_mul, Nat.testBit_eq_decide_div_mod_eq]
  have := Nat.mod_two_eq_zero_or_one (x / 2 ^ k)
  rcases this with h | h <;> simp [h]
theorem or_has {x k : Nat} (h : x.testBit k = true) : x ||| 2 ^ k = x := by
  apply Nat.eq_of_testBit_eq
  intro i
  rw [Nat.testBit_or, Nat.testBit_two_pow]
  by_cases e : k = i
  · subst e; rw [h]; rfl
  · rw [decide_eq_false e, Bool.or_false]
theorem put_has {f : F} {m : Nat} (h : has f m = true) : put f m = f := by
  funext j
  unfold put upd
  split
  · rename_i e; rw [e]; exact or_has h
  · rfl
/-- what is not marked is marked by a sum -/
theorem put_add {x k : Nat} (h : x.testBit k = false) : x ||| 2 ^ k = x + 2 ^ k := by
  have hx : x &&& 2 ^ k = 0 := by
    apply Nat.eq_of_testBit_eq
    intro i
    rw [Nat.testBit_and, Nat.testBit_two_pow, Nat.zero_testBit]
    by_cases e : k = i
    · subst e; rw [h]; rfl
    · rw [decide_eq_false e, Bool.and_false]
  have e := Nat.div_add_mod x (2 ^ (k + 1))
  have hb : x % 2 ^ (k + 1) < 2 ^ k := by
    rw [mod_succ, h]
    simpa using Nat.mod_lt x (Nat.two_pow_pos k)
  apply Nat.eq_of_testBit_eq
  intro i
  rw [Nat.testBit_or, Nat.testBit_two_pow]
  have hc : x + 2 ^ k = 2 ^ (k + 1) * (x / 2 ^ (k + 1)) + (2 ^ k + x % 2 ^ (k + 1)) := by omega
  have hp := Nat.pow_succ 2 k
  have hlt : 2 ^ k + x % 2 ^ (k + 1) < 2 ^ (k + 1) := by omega
  rw [hc, Nat.testBit_two_pow_mul_add _ hlt]
  rcases Nat.lt_trichotomy i k with hi | hi | hi
  · rw [if_pos (by omega), Nat.testBit_two_pow_add_gt hi, Nat.testBit_mod_two_pow, decide_eq_false (by omega), Bool.or_false, decide_eq_true (by omega), Bool.true_and]
  · subst hi
    rw [if_pos (by omega), Nat.testBit_two_pow_add_eq, Nat.testBit_lt_two_pow hb, decide_eq_true rfl]; simp
  · rw [if_neg (by omega), decide_eq_false (by omega), Bool.or_false, Nat.testBit_div_two_pow, Nat.sub_add_cancel (by omega)]

theorem may_add (f : F) (c : C.Cl) : may f c = true ↔ add f c = f := by
  constructor
  · intro h
    unfold may at h
    simp only [Bool.and_eq_true] at h
    obtain ⟨⟨a, b⟩, d⟩ := h
    rw [add_put, put_has a, put_has b, put_has d]
  · intro h
    have e : ∀ m, has f m = (has f m || has (marks (hash c)) m) := fun m => by
      have := has_orf f (marks (hash c)) m
      rw [show orf f (marks (hash c)) = f from h] at this; exact this
    unfold may
    rw [e (m0 _), e (m1 _), e (m2 _), marks_eq]
    simp only [has_orf, has_mk, Bool.true_or, Bool.or_true, Bool.and_true]
/-- word by word -/
theorem ext4 {f g : F} (h : ∀ j, j < 4 → f j = g j) (m : Nat) (hm : m < 256) : has f m = has g m := by unfold has; rw [h _ (by omega)]
theorem may_words (f : F) (c : C.Cl) : may f c = true ↔ ∀ j, j < 4 → add f c j = f j := by
  constructor
  · intro h j _; rw [(may_add f c).1 h]
  · intro h
    have e : ∀ m, m < 256 → has f m = (has f m || has (marks (hash c)) m) := fun m hm => by
      have := has_orf f (marks (hash c)) m
      rw [ext4 (f := orf f (marks (hash c))) (g := f) h m hm] at this; exact this
    unfold may
    rw [e (m0 _) (Nat.mod_lt _ (by omega)), e (m1 _) (Nat.mod_lt _ (by omega)), e (m2 _) (Nat.mod_lt _ (by omega)), marks_eq]
    simp only [has_orf, has_mk, Bool.true_or, Bool.or_true, Bool.and_true]

theorem fil_append (f : F) (a b : List C.Cl) : fil f (a ++ b) = fil (fil f a) b := List.foldl_append
theorem fil_snoc (f : F) (a : List C.Cl) (c : C.Cl) : fil f (a ++ [c]) = add (fil f a) c := by rw [fil_append]; rfl
theorem fil_orf (f g : F) (l : List C.Cl) : fil (orf f g) l = orf f (fil g l) := by
  induction l generalizing g with
  | nil => rfl
  | cons c l ih =>
    show fil (add (orf f g) c) l = orf f (fil (add g c) l)
    rw [show add (orf f g) c = orf f (add g c) from orf_assoc _ _ _, ih]
theorem fil_union (a b : List C.Cl) : fil none_ (a ++ b) = orf (fil none_ a) (fil none_ b) := by
  have h := fil_orf (fil none_ a) none_ b
  rw [orf_none] at h
  rw [fil_append, h]
theorem may_more {f : F} {c : C.Cl} (h : may f c = true) (g : F) : may (orf f g) c = true := by
  rw [may_add] at h ⊢
  show orf (orf f g) _ = _
  rw [orf_assoc, orf_comm g, ← orf_assoc, show orf f (marks (hash c)) = f from h]
theorem may_here (f : F) (c : C.Cl) : may (add f c) c = true := by
  rw [may_add]; show orf (orf f _) _ = _; rw [orf_assoc, orf_self]; rfl
theorem fil_more (f : F) (l : List C.Cl) : fil f l = orf f (fil none_ l) := by have h := fil_orf f none_ l; rwa [orf_none] at h
theorem may_never (f : F) (a b : List C.Cl) (c : C.Cl) : may (fil (add (fil f a) c) b) c = true := by
  rw [fil_more]; exact may_more (may_here _ _) _

/-- both ones' marks, from the lowest on: so many of them -/
def part (f g : F) (i : Nat) : F := fun j => (f j ||| g j) % 2 ^ (i - 64 * j)
theorem part_zero (f g : F) : part f g 0 = none_ := by funext j; unfold part none_; rw [Nat.zero_sub, Nat.pow_zero, Nat.mod_one]
theorem part_all {f g : F} (hf : fOk f) (hg : fOk g) (j : Nat) (hj : j < 4) : part f g 256 j = orf f g j := by
  unfold part
  refine Nat.mod_eq_of_lt (Nat.lt_of_lt_of_le (orf_ok hf hg j hj) ?_)
  exact Nat.pow_le_pow_right (n := 2) (i := 64) (by omega) (by omega)
theorem part_other {f g : F} (hf : fOk f) (hg : fOk g) (i j : Nat) (hj : j < 4) (h : j ≠ i / 64) : part f g (i + 1) j = part f g i j := by
  unfold part
  by_cases hi : i < 64 * j
  · rw [show i + 1 - 64 * j = 0 by omega, show i - 64 * j = 0 by omega]
  · have ho := orf_ok hf hg j hj
    have h64 : 64 ≤ i - 64 * j := by omega
    have hp : ∀ n, 64 ≤ n → (f j ||| g j) % 2 ^ n = (f j ||| g j) := fun n hn => Nat.mod_eq_of_lt (Nat.lt_of_lt_of_le ho (Nat.pow_le_pow_right (n := 2) (i := 64) (by omega) hn))
    rw [hp _ (by omega), hp _ h64]
theorem part_here (f g : F) (i : Nat) : part f g (i + 1) (i / 64) = part f g i (i / 64) + (if (has f i || has g i) = true then 2 ^ (i % 64) else 0) := by
  unfold part
  have e : i - 64 * (i / 64) = i % 64 := by omega
  rw [show i + 1 - 64 * (i / 64) = i % 64 + 1 by omega, e, mod_succ, Nat.testBit_or]
  rfl

/-- the first so many words of both, the rest of one -/
def mixf (f g : F) (k : Nat) : F := fun j => if j < k then f j ||| g j else f j
theorem mixf_here (f g : F) (k : Nat) : mixf f g k k = f k := by unfold mixf; rw [if_neg (by omega)]
theorem mixf_step (f g : F) (k : Nat) : upd (mixf f g k) k (f k ||| g k) = mixf f g (k + 1) := by
  funext j
  unfold upd mixf
  by_cases h : j = k
  · subst h; rw [if_pos rfl, if_pos (by omega)]
  · rw [if_neg h]
    by_cases h2 : j < k
    · rw [if_pos h2, if_pos (by omega)]
    · rw [if_neg h2, if_neg (by omega)]
theorem mixf_zero (f g : F) : mixf f g 0 = f := by funext j; unfold mixf; rw [if_neg (by omega)]
theorem mixf_all (f g : F) (j : Nat) (hj : j < 4) : mixf f g 4 j = orf f g j := by unfold mixf orf; rw [if_pos hj]

theorem has_div (f : F) (m : Nat) : has f m = decide (f (m / 64) / 2 ^ (m % 64) % 2 = 1) := by
  unfold has; rw [Nat.testBit_eq_decide_div_mod_eq]
end Go.Proofs.Ytbhggbohkddlaaa.Bl
