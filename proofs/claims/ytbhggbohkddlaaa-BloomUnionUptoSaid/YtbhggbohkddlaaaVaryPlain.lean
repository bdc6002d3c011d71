/- Plain mathematics of vary: a number's bytes, what a text begins with; no dump is read. -/
import GoSem.Op.String
namespace Go.Proofs.Ytbhggbohkddlaaa.V

def sz (n : Nat) : Nat :=
  if n < 128 then 1 else if n < 16384 then 2 else if n < 2097152 then 3 else if n < 268435456 then 4
  else if n < 34359738368 then 5 else if n < 4398046511104 then 6 else if n < 562949953421312 then 7
  else if n < 72057594037927936 then 8 else 9

def ld (k : Nat) : Nat := 256 - 2 ^ (9 - k)

def kl (c : Nat) : Nat :=
  if c < 128 then 1 else if c < 192 then 2 else if c < 224 then 3 else if c < 240 then 4
  else if c < 248 then 5 else if c < 252 then 6 else if c < 254 then 7 else if c < 255 then 8 else 9

def be : Nat → Nat → List UInt8
  | 0, _ => []
  | k + 1, v => UInt8.ofNat (v / 256 ^ k) :: be k v

def val : List UInt8 → Nat
  | [] => 0
  | c :: t => c.toNat * 256 ^ t.length + val t

def enc (n : Nat) : List UInt8 := be (sz n) (n + ld (sz n) * 256 ^ (sz n - 1))

theorem sz_spec (n : Nat) : (sz n = 1 ∧ n < 128) ∨ (sz n = 2 ∧ 128 ≤ n ∧ n < 16384) ∨ (sz n = 3 ∧ 16384 ≤ n ∧ n < 2097152) ∨ (sz n = 4 ∧ 2097152 ≤ n ∧ n < 268435456) ∨
    (sz n = 5 ∧ 268435456 ≤ n ∧ n < 34359738368) ∨ (sz n = 6 ∧ 34359738368 ≤ n ∧ n < 4398046511104) ∨ (sz n = 7 ∧ 4398046511104 ≤ n ∧ n < 562949953421312) ∨
    (sz n = 8 ∧ 562949953421312 ≤ n ∧ n < 72057594037927936) ∨ (sz n = 9 ∧ 72057594037927936 ≤ n) := by unfold sz; (repeat' split) <;> omega
theorem kl_spec (c : Nat) (hc : c < 256) : (kl c = 1 ∧ c < 128) ∨ (kl c = 2 ∧ 128 ≤ c ∧ c < 192) ∨ (kl c = 3 ∧ 192 ≤ c ∧ c < 224) ∨ (kl c = 4 ∧ 224 ≤ c ∧ c < 240) ∨
    (kl c = 5 ∧ 240 ≤ c ∧ c < 248) ∨ (kl c = 6 ∧ 248 ≤ c ∧ c < 252) ∨ (kl c = 7 ∧ 252 ≤ c ∧ c < 254) ∨ (kl c = 8 ∧ c = 254) ∨ (kl c = 9 ∧ c = 255) := by unfold kl; (repeat' split) <;> omega
theorem sz_ge (n : Nat) : 1 ≤ sz n := by have := sz_spec n; omega
theorem sz_le (n : Nat) : sz n ≤ 9 := by have := sz_spec n; omega

theorem be_length (k v : Nat) : (be k v).length = k := by
  induction k with
  | zero => rfl
  | succ k ih => simp [be, ih]

theorem enc_length (n : Nat) : (enc n).length = sz n := be_length _ _

theorem val_lt (l : List UInt8) : val l < 256 ^ l.length := by
  induction l with
  | nil => simp [val]
  | cons c t ih =>
    have hc : c.toNat < 256 := c.toNat_lt
    simp only [val, List.length_cons, Nat.pow_succ]
    have : c.toNat * 256 ^ t.length ≤ 255 * 256 ^ t.length := Nat.mul_le_mul_right _ (by omega)
    omega

theorem be_congr (k u v : Nat) (h : u % 256 ^ k = v % 256 ^ k) : be k u = be k v := by
  induction k with
  | zero => rfl
  | succ k ih =>
    have h1 : u % 256 ^ k = v % 256 ^ k := by
      have a1 := Nat.mod_mod_of_dvd u (Nat.pow_dvd_pow 256 (Nat.le_succ k))
      have a2 := Nat.mod_mod_of_dvd v (Nat.pow_dvd_pow 256 (Nat.le_succ k))
      rw [← a1, ← a2, h]
    simp only [be]
    rw [ih h1]
    congr 1
    apply UInt8.toNat_inj.mp
    have e1 : u / 256 ^ k % 256 = u % 256 ^ (k + 1) / 256 ^ k := by
      rw [Nat.pow_succ, Nat.mod_mul, Nat.add_mul_div_left _ _ (Nat.pow_pos (by omega)), Nat.div_eq_of_lt (Nat.mod_lt _ (Nat.pow_pos (by omega)))]; omega
    have e2 : v / 256 ^ k % 256 = v % 256 ^ (k + 1) / 256 ^ k := by
      rw [Nat.pow_succ, Nat.mod_mul, Nat.add_mul_div_left _ _ (Nat.pow_pos (by omega)), Nat.div_eq_of_lt (Nat.mod_lt _ (Nat.pow_pos (by omega)))]; omega
    simp only [UInt8.toNat_ofNat']
    show u / 256 ^ k % 256 = v / 256 ^ k % 256
    rw [e1, e2, h]

theorem val_be (k v : Nat) : val (be k v) = v % 256 ^ k := by
  induction k with
  | zero => simp [be, val, Nat.mod_one]
  | succ k ih =>
    simp only [be, val, be_length, ih, UInt8.toNat_ofNat']
    show v / 256 ^ k % 256 * 256 ^ k + v % 256 ^ k = _
    rw [Nat.pow_succ, Nat.mod_mul, Nat.mul_comm (256 ^ k)]; omega

theorem be_val (l : List UInt8) : be l.length (val l) = l := by
  induction l with
  | nil => rfl
  | cons c t ih =>
    have hp : 0 < 256 ^ t.length := Nat.pow_pos (by omega)
    have hv := val_lt t
    simp only [List.length_cons, be, val]
    congr 1
    · apply UInt8.toNat_inj.mp
      rw [UInt8.toNat_ofNat', Nat.mul_comm, Nat.mul_add_div hp, Nat.div_eq_of_lt hv]
      have := c.toNat_lt
      omega
    · rw [be_congr t.length (c.toNat * 256 ^ t.length + val t) (val t) (by rw [Nat.mul_comm, Nat.mul_add_mod])]
      exact ih

theorem val_snoc (l : List UInt8) (c : UInt8) : val (l ++ [c]) = val l * 256 + c.toNat := by
  induction l with
  | nil => simp [val]
  | cons a t ih =>
    simp only [List.cons_append, val, ih, List.length_append, List.length_cons, List.length_nil, Nat.pow_succ, Nat.add_mul, Nat.zero_add, Nat.mul_assoc]
    omega

theorem be_snoc (k v : Nat) : be (k + 1) v = be k (v / 256) ++ [UInt8.ofNat v] := by
  induction k with
  | zero => simp [be]
  | succ k ih =>
    rw [be, ih]
    conv => rhs; rw [be]
    rw [List.cons_append, Nat.div_div_eq_div_mul, Nat.pow_succ, Nat.mul_comm (256 ^ k)]

/-- sz and the bound of a number of k bytes. -/
theorem sz_cases (n : Nat) (hn : n < 18446744073709551616) :
    n + ld (sz n) * 256 ^ (sz n - 1) < 256 ^ sz n ∧ kl ((n + ld (sz n) * 256 ^ (sz n - 1)) / 256 ^ (sz n - 1)) = sz n := by
  rcases sz_spec n with ⟨h, h1⟩ | ⟨h, h1, h2⟩ | ⟨h, h1, h2⟩ | ⟨h, h1, h2⟩ | ⟨h, h1, h2⟩ | ⟨h, h1, h2⟩ | ⟨h, h1, h2⟩ | ⟨h, h1, h2⟩ | ⟨h, h1⟩
  all_goals
    rw [h]
    simp only [ld, Nat.reduceSub, Nat.reducePow, Nat.reduceMul]
    refine ⟨by omega, ?_⟩
    generalize hq : (_ / _ : Nat) = q
    have := kl_spec q (by omega)
    omega

theorem enc_head (n : Nat) (hn : n < 18446744073709551616) : ∃ c t, enc n = c :: t ∧ kl c.toNat = sz n ∧ c.toNat = (n + ld (sz n) * 256 ^ (sz n - 1)) / 256 ^ (sz n - 1) := by
  obtain ⟨h1, h2⟩ := sz_cases n hn
  have hg := sz_ge n
  unfold enc
  generalize sz n = k at *
  obtain ⟨j, rfl⟩ : ∃ j, k = j + 1 := ⟨k - 1, by omega⟩
  simp only [Nat.add_sub_cancel] at *
  have hlt : (n + ld (j + 1) * 256 ^ j) / 256 ^ j < 256 := by
    rw [Nat.div_lt_iff_lt_mul (Nat.pow_pos (by omega))]; rw [Nat.pow_succ] at h1; omega
  have e : (UInt8.ofNat ((n + ld (j + 1) * 256 ^ j) / 256 ^ j)).toNat = (n + ld (j + 1) * 256 ^ j) / 256 ^ j := by
    rw [UInt8.toNat_ofNat']; exact Nat.mod_eq_of_lt hlt
  exact ⟨_, _, rfl, by rw [e]; exact h2, e⟩

theorem val_enc (n : Nat) (hn : n < 18446744073709551616) : val (enc n) = n + ld (sz n) * 256 ^ (sz n - 1) := by
  unfold enc; rw [val_be]; exact Nat.mod_eq_of_lt (sz_cases n hn).1

/-- what a text begins with: the number, its bytes, the error -/
def rd (l : List UInt8) : Nat × Nat × Nat :=
  match l with
  | [] => (0, 0, 5)
  | c :: _ =>
    if l.length < kl c.toNat then (0, 0, 5)
    else if sz (val (l.take (kl c.toNat)) - ld (kl c.toNat) * 256 ^ (kl c.toNat - 1)) < kl c.toNat then (0, 0, 1)
    else (val (l.take (kl c.toNat)) - ld (kl c.toNat) * 256 ^ (kl c.toNat - 1), kl c.toNat, 0)

theorem rd_enc (n : Nat) (hn : n < 18446744073709551616) (t : List UInt8) : rd (enc n ++ t) = (n, sz n, 0) := by
  obtain ⟨c, u, he, hk, _⟩ := enc_head n hn
  have hl := enc_length n
  have hv := val_enc n hn
  rw [he] at hl hv
  have ht : (c :: (u ++ t)).take (sz n) = c :: u := by
    rw [← List.cons_append, List.take_append_of_le_length (by omega), List.take_of_length_le (by omega)]
  rw [he, List.cons_append]
  simp only [rd, hk, ht, hv, Nat.add_sub_cancel]
  rw [if_neg (by simp only [List.length_cons, List.length_append] at hl ⊢; omega), if_neg (by omega)]

/-- the bounds of what a text says -/
theorem kl_bounds (c : Nat) (hc : c < 256) : 1 ≤ kl c ∧ kl c ≤ 9 ∧ ld (kl c) ≤ c ∧ (c - ld (kl c) + 1) * 256 ^ (kl c - 1) ≤ 18446744073709551616 ∧
    (∀ n, n < (c - ld (kl c) + 1) * 256 ^ (kl c - 1) → sz n ≤ kl c) := by
  rcases kl_spec c hc with ⟨h, h1⟩ | ⟨h, h1, h2⟩ | ⟨h, h1, h2⟩ | ⟨h, h1, h2⟩ | ⟨h, h1, h2⟩ | ⟨h, h1, h2⟩ | ⟨h, h1, h2⟩ | ⟨h, h1⟩ | ⟨h, h1⟩
  all_goals
    rw [h]
    simp only [ld, Nat.reduceSub, Nat.reducePow]
    refine ⟨by omega, by omega, by omega, by omega, ?_⟩
    intro n hn
    have := sz_spec n
    omega

theorem rd_facts (c : UInt8) (t : List UInt8) (h : kl c.toNat ≤ (c :: t).length) :
    ld (kl c.toNat) * 256 ^ (kl c.toNat - 1) ≤ val ((c :: t).take (kl c.toNat)) ∧
    val ((c :: t).take (kl c.toNat)) - ld (kl c.toNat) * 256 ^ (kl c.toNat - 1) = (c.toNat - ld (kl c.toNat)) * 256 ^ (kl c.toNat - 1) + val (t.take (kl c.toNat - 1)) ∧
    val ((c :: t).take (kl c.toNat)) - ld (kl c.toNat) * 256 ^ (kl c.toNat - 1) < 18446744073709551616 ∧
    sz (val ((c :: t).take (kl c.toNat)) - ld (kl c.toNat) * 256 ^ (kl c.toNat - 1)) ≤ kl c.toNat := by
  obtain ⟨h1, h9, hld, hb, hs⟩ := kl_bounds c.toNat c.toNat_lt
  generalize kl c.toNat = k at *
  obtain ⟨j, rfl⟩ : ∃ j, k = j + 1 := ⟨k - 1, by omega⟩
  simp only [Nat.add_sub_cancel, List.take_succ_cons, val, List.length_take, List.length_cons] at *
  have hm : min j t.length = j := by omega
  have hv := val_lt (t.take j)
  rw [List.length_take, hm] at hv
  rw [hm]
  have hmul : ld (j + 1) * 256 ^ j ≤ c.toNat * 256 ^ j := Nat.mul_le_mul_right _ hld
  have hsub : (c.toNat - ld (j + 1)) * 256 ^ j = c.toNat * 256 ^ j - ld (j + 1) * 256 ^ j := Nat.sub_mul _ _ _
  have hlt : c.toNat * 256 ^ j + val (t.take j) - ld (j + 1) * 256 ^ j < (c.toNat - ld (j + 1) + 1) * 256 ^ j := by
    rw [Nat.add_mul, Nat.one_mul, hsub]; omega
  exact ⟨by omega, by rw [hsub]; omega, by omega, hs _ hlt⟩

theorem rd_ok (l : List UInt8) (n k : Nat) (h : rd l = (n, k, 0)) : 1 ≤ k ∧ k ≤ l.length ∧ enc n = l.take k ∧ n < 18446744073709551616 ∧ k ≤ 9 ∧ sz n = k := by
  match l, h with
  | [], h => simp [rd] at h
  | c :: t, h =>
    simp only [rd] at h
    by_cases a : (c :: t).length < kl c.toNat
    · rw [if_pos a] at h; simp at h
    rw [if_neg a] at h
    obtain ⟨f1, f2, f3, f4⟩ := rd_facts c t (by omega)
    obtain ⟨h1, h9, hld, hb, hs⟩ := kl_bounds c.toNat c.toNat_lt
    by_cases b : sz (val ((c :: t).take (kl c.toNat)) - ld (kl c.toNat) * 256 ^ (kl c.toNat - 1)) < kl c.toNat
    · rw [if_pos b] at h; simp at h
    rw [if_neg b] at h
    simp only [Prod.mk.injEq] at h
    obtain ⟨hn, hk, _⟩ := h
    subst hk
    generalize kl c.toNat = k at *
    rw [hn] at f2 f3 f4 b
    have hs' : sz n = k := by omega
    refine ⟨h1, by omega, ?_, f3, h9, hs'⟩
    have hl : ((c :: t).take k).length = k := by rw [List.length_take]; omega
    have e : n + ld k * 256 ^ (k - 1) = val ((c :: t).take k) := by omega
    have := be_val ((c :: t).take k)
    rw [hl] at this
    unfold enc
    rw [hs', e]
    exact this

theorem rd_bad (l : List UInt8) : (rd l).2.2 = 0 ∨ (rd l = (0, 0, 5)) ∨ (rd l = (0, 0, 1)) := by
  match l with
  | [] => exact Or.inr (Or.inl rfl)
  | c :: t =>
    simp only [rd]
    split
    · exact Or.inr (Or.inl rfl)
    · split
      · exact Or.inr (Or.inr rfl)
      · exact Or.inl rfl

theorem rd_cut (n k : Nat) (hn : n < 18446744073709551616) (hk : k < sz n) : rd ((enc n).take k) = (0, 0, 5) := by
  obtain ⟨c, u, he, hc, _⟩ := enc_head n hn
  have hl := enc_length n
  rw [he] at hl ⊢
  match k with
  | 0 => rfl
  | k + 1 =>
    simp only [List.take_succ_cons, rd, hc]
    rw [if_pos (by simp only [List.length_cons, List.length_take] at hl ⊢; omega)]

/-- the order of bytes -/
theorem less_be (k u v : Nat) (s t : List UInt8) (hu : u < 256 ^ k) (hv : v < 256 ^ k) (h : u ≠ v) :
    Go.Op.bytesLess (be k u ++ s) (be k v ++ t) = decide (u < v) := by
  induction k generalizing u v with
  | zero => simp only [Nat.pow_zero] at hu hv; omega
  | succ k ih =>
    have hp : 0 < 256 ^ k := Nat.pow_pos (by omega)
    have hqu : u / 256 ^ k < 256 := by rw [Nat.div_lt_iff_lt_mul hp]; rw [Nat.pow_succ] at hu; omega
    have hqv : v / 256 ^ k < 256 := by rw [Nat.div_lt_iff_lt_mul hp]; rw [Nat.pow_succ] at hv; omega
    have eu : (UInt8.ofNat (u / 256 ^ k)).toNat = u / 256 ^ k := by rw [UInt8.toNat_ofNat']; exact Nat.mod_eq_of_lt hqu
    have ev : (UInt8.ofNat (v / 256 ^ k)).toNat = v / 256 ^ k := by rw [UInt8.toNat_ofNat']; exact Nat.mod_eq_of_lt hqv
    have du := Nat.div_add_mod u (256 ^ k)
    have dv := Nat.div_add_mod v (256 ^ k)
    have mu := Nat.mod_lt u hp
    have mv := Nat.mod_lt v hp
    simp only [be, List.cons_append, Go.Op.bytesLess]
    by_cases hq : u / 256 ^ k = v / 256 ^ k
    · have hm : u % 256 ^ k ≠ v % 256 ^ k := by intro e; apply h; rw [← du, ← dv, hq, e]
      rw [be_congr k u (u % 256 ^ k) (Nat.mod_mod _ _).symm, be_congr k v (v % 256 ^ k) (Nat.mod_mod _ _).symm, ih _ _ mu mv hm, hq]
      rw [hq] at du
      have : (u % 256 ^ k < v % 256 ^ k) ↔ u < v := by omega
      simp [this]
    · have e1 : (UInt8.ofNat (u / 256 ^ k) < UInt8.ofNat (v / 256 ^ k)) ↔ u / 256 ^ k < v / 256 ^ k := by
        rw [UInt8.lt_iff_toNat_lt, eu, ev]
      have e2 : (UInt8.ofNat (u / 256 ^ k) == UInt8.ofNat (v / 256 ^ k)) = false := by
        rw [beq_eq_false_iff_ne]; intro e; have := congrArg UInt8.toNat e; rw [eu, ev] at this; exact hq this
      have e3 : u / 256 ^ k < v / 256 ^ k ↔ u < v := by
        constructor
        · intro x
          have : 256 ^ k * (u / 256 ^ k + 1) ≤ 256 ^ k * (v / 256 ^ k) := Nat.mul_le_mul_left _ x
          rw [Nat.mul_add, Nat.mul_one] at this; omega
        · intro x
          rcases Nat.lt_or_ge (u / 256 ^ k) (v / 256 ^ k) with y | y
          · exact y
          · have : 256 ^ k * (v / 256 ^ k + 1) ≤ 256 ^ k * (u / 256 ^ k) := Nat.mul_le_mul_left _ (by omega)
            rw [Nat.mul_add, Nat.mul_one] at this; omega
      rw [e2]
      simp only [Bool.false_and, Bool.or_false]
      exact decide_eq_decide.mpr (e1.trans e3)

theorem sz_mono (a b : Nat) (h : sz a < sz b) : a < b := by
  rcases Nat.lt_or_ge a b with x | x
  · exact x
  · have h1 := sz_spec a
    have h2 := sz_spec b
    omega

theorem head_lt (a b : Nat) (ha : a < 18446744073709551616) (hb : b < 18446744073709551616) (h : sz a < sz b) (s t : List UInt8) :
    Go.Op.bytesLess (enc a ++ s) (enc b ++ t) = true ∧ Go.Op.bytesLess (enc b ++ t) (enc a ++ s) = false := by
  obtain ⟨c, u, he, hk, _⟩ := enc_head a ha
  obtain ⟨d, v, hf, hj, _⟩ := enc_head b hb
  rw [he, hf]
  have hcd : c.toNat < d.toNat := by
    rw [← hk, ← hj] at h
    rcases Nat.lt_or_ge c.toNat d.toNat with x | x
    · exact x
    · have h1 := kl_spec c.toNat c.toNat_lt
      have h2 := kl_spec d.toNat d.toNat_lt
      omega
  have h1 : c < d := UInt8.lt_iff_toNat_lt.mpr hcd
  have h2 : ¬ d < c := by rw [UInt8.lt_iff_toNat_lt]; omega
  have h3 : (d == c) = false := by rw [beq_eq_false_iff_ne]; intro e; rw [e] at hcd; omega
  simp [Go.Op.bytesLess, h1, h2, h3]

theorem less_self (l s t : List UInt8) : Go.Op.bytesLess (l ++ s) (l ++ t) = Go.Op.bytesLess s t := by
  induction l with
  | nil => rfl
  | cons c l ih =>
    have : ¬ c < c := by rw [UInt8.lt_iff_toNat_lt]; omega
    simp [Go.Op.bytesLess, this, ih]

theorem less_enc (a b : Nat) (ha : a < 18446744073709551616) (hb : b < 18446744073709551616) (s t : List UInt8) (h : a ≠ b) :
    Go.Op.bytesLess (enc a ++ s) (enc b ++ t) = decide (a < b) := by
  rcases Nat.lt_trichotomy (sz a) (sz b) with x | x | x
  · rw [(head_lt a b ha hb x s t).1]; simp [sz_mono a b x]
  · have h1 := (sz_cases a ha).1
    have h2 := (sz_cases b hb).1
    unfold enc
    rw [x] at h1 ⊢
    rw [less_be _ _ _ _ _ h1 h2 (by omega)]
    apply decide_eq_decide.mpr; omega
  · rw [(head_lt b a hb ha x t s).2]; have := sz_mono b a x; simp; omega

/-- lists -/
def encs (l : List Nat) : List UInt8 := l.flatMap enc

def lessN : List Nat → List Nat → Bool
  | _, [] => false
  | [], _ :: _ => true
  | a :: x, b :: y => if a = b then lessN x y else decide (a < b)

theorem less_encs (x y : List Nat) (hx : ∀ a ∈ x, a < 18446744073709551616) (hy : ∀ a ∈ y, a < 18446744073709551616) :
    Go.Op.bytesLess (encs x) (encs y) = lessN x y := by
  induction x generalizing y with
  | nil =>
    match y with
    | [] => rfl
    | b :: y =>
      obtain ⟨d, v, hf, _, _⟩ := enc_head b (hy b (by simp))
      simp [encs, hf, lessN, Go.Op.bytesLess]
  | cons a x ih =>
    match y with
    | [] =>
      obtain ⟨d, v, hf, _, _⟩ := enc_head a (hx a (by simp))
      simp [encs, hf, lessN, Go.Op.bytesLess]
    | b :: y =>
      simp only [encs, List.flatMap_cons, lessN]
      by_cases e : a = b
      · subst e
        rw [less_self, if_pos rfl]
        exact ih y (fun z hz => hx z (by simp [hz])) (fun z hz => hy z (by simp [hz]))
      · rw [less_enc a b (hx a (by simp)) (hy b (by simp)) _ _ e, if_neg e]

/-- reading all of a text -/
def rdF : Nat → List UInt8 → List Nat × Nat
  | 0, _ => ([], 0)
  | f + 1, l =>
    if l = [] then ([], 0)
    else if (rd l).2.2 = 0 then (if (rdF f (l.drop (rd l).2.1)).2 = 0 then ((rd l).1 :: (rdF f (l.drop (rd l).2.1)).1, 0) else ([], (rdF f (l.drop (rd l).2.1)).2))
    else ([], (rd l).2.2)
def rdl (l : List UInt8) : List Nat × Nat := rdF (l.length + 1) l

theorem encs_cons (x : Nat) (xs : List Nat) : encs (x :: xs) = enc x ++ encs xs := by simp [encs]
theorem encs_append (xs ys : List Nat) : encs (xs ++ ys) = encs xs ++ encs ys := by simp [encs]
theorem encs_one (x : Nat) : encs [x] = enc x := by simp [encs]
theorem enc_ne (x : Nat) : enc x ≠ [] := by
  intro h; have h1 := enc_length x; have := sz_ge x; rw [h] at h1; simp at h1; omega

theorem rdF_step (f x : Nat) (hx : x < 18446744073709551616) (l : List UInt8) :
    rdF (f + 1) (enc x ++ l) = if (rdF f l).2 = 0 then (x :: (rdF f l).1, 0) else ([], (rdF f l).2) := by
  have hr := rd_enc x hx l
  have hd : (enc x ++ l).drop (sz x) = l := by rw [← enc_length x, List.drop_left]
  simp only [rdF, hr, hd]
  rw [if_neg (by simp [enc_ne])]
  simp

theorem rdF_encs (xs : List Nat) (hx : ∀ x ∈ xs, x < 18446744073709551616) (rest : List UInt8) (f : Nat) (hf : (encs xs ++ rest).length < f) (hr : rest = [] ∨ (rd rest).2.2 ≠ 0) :
    rdF f (encs xs ++ rest) = if rest = [] then (xs, 0) else ([], (rd rest).2.2) := by
  induction xs generalizing f with
  | nil =>
    obtain ⟨g, rfl⟩ : ∃ g, f = g + 1 := ⟨f - 1, by omega⟩
    simp only [encs, List.flatMap_nil, List.nil_append, rdF]
    by_cases h : rest = []
    · rw [if_pos h, if_pos h]
    · rw [if_neg h, if_neg h, if_neg (by rcases hr with h' | h'; exact absurd h' h; exact h')]
  | cons x xs ih =>
    obtain ⟨g, rfl⟩ : ∃ g, f = g + 1 := ⟨f - 1, by omega⟩
    have hl := enc_length x
    have hs := sz_ge x
    rw [encs_cons, List.append_assoc] at hf ⊢
    rw [rdF_step _ _ (hx x (by simp)), ih (fun y hy => hx y (by simp [hy])) g (by rw [List.length_append] at hf; omega)]
    by_cases h : rest = []
    · rw [if_pos h, if_pos rfl, if_pos h]
    · have h2 : (rd rest).2.2 ≠ 0 := by rcases hr with h' | h'; exact absurd h' h; exact h'
      rw [if_neg h, if_neg h2, if_neg h]

theorem rdl_encs (xs : List Nat) (hx : ∀ x ∈ xs, x < 18446744073709551616) : rdl (encs xs) = (xs, 0) := by
  have := rdF_encs xs hx [] (_ + 1) (Nat.lt_succ_self _) (Or.inl rfl)
  rw [List.append_nil, if_pos rfl] at this
  exact this

theorem rdl_bad (xs : List Nat) (hx : ∀ x ∈ xs, x < 18446744073709551616) (rest : List UInt8) (h : rest ≠ []) (hr : (rd rest).2.2 ≠ 0) : rdl (encs xs ++ rest) = ([], (rd rest).2.2) := by
  have := rdF_encs xs hx rest (_ + 1) (Nat.lt_succ_self _) (Or.inr hr)
  rw [if_neg h] at this
  exact this

end Go.Proofs.Ytbhggbohkddlaaa.V
