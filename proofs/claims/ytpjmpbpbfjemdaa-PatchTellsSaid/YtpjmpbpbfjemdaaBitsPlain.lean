/- Plain mathematics of bits: numbers side by side are one great number; no dump is read. -/
import Derived.Lib.BitFns
namespace Go.Proofs.Ytpjmpbpbfjemdaa.B

def leN : List UInt8 → Nat
  | [] => 0
  | c :: t => c.toNat + 256 * leN t

def le : Nat → Nat → List UInt8
  | 0, _ => []
  | k + 1, v => UInt8.ofNat v :: le k (v / 256)

def pk (w : Nat) : List Nat → Nat
  | [] => 0
  | x :: l => x + 2 ^ w * pk w l

def dg (w : Nat) : Nat → Nat → List Nat
  | 0, _ => []
  | n + 1, v => v % 2 ^ w :: dg w n (v / 2 ^ w)

def sz (m : Nat) : Nat := (m + 7) / 8

theorem two8 (q : Nat) : (256 : Nat) ^ q = 2 ^ (8 * q) := by rw [Nat.pow_mul]
theorem pos2 (n : Nat) : 0 < 2 ^ n := Nat.pow_pos (by omega)
theorem pos256 (n : Nat) : 0 < 256 ^ n := Nat.pow_pos (by omega)

theorem le_length (k v : Nat) : (le k v).length = k := by
  induction k generalizing v with
  | zero => rfl
  | succ k ih => simp [le, ih]

theorem le_get (k v j : Nat) (h : j < k) : (le k v)[j]? = some (UInt8.ofNat (v / 256 ^ j)) := by
  induction k generalizing v j with
  | zero => omega
  | succ k ih =>
    match j with
    | 0 => simp [le]
    | j + 1 =>
      simp only [le, List.getElem?_cons_succ]
      rw [ih (v / 256) j (by omega), Nat.div_div_eq_div_mul, Nat.pow_succ, Nat.mul_comm]

theorem leN_le (k v : Nat) : leN (le k v) = v % 256 ^ k := by
  induction k generalizing v with
  | zero => simp [le, leN, Nat.mod_one]
  | succ k ih =>
    simp only [le, leN, ih, UInt8.toNat_ofNat']
    show v % 256 + 256 * (v / 256 % 256 ^ k) = _
    rw [Nat.pow_succ, Nat.mul_comm (256 ^ k), Nat.mod_mul]

theorem leN_lt (l : List UInt8) : leN l < 256 ^ l.length := by
  induction l with
  | nil => simp [leN]
  | cons c t ih => have := c.toNat_lt; simp only [leN, List.length_cons, Nat.pow_succ]; omega

theorem le_leN (l : List UInt8) : le l.length (leN l) = l := by
  induction l with
  | nil => rfl
  | cons c t ih =>
    have := c.toNat_lt
    simp only [List.length_cons, le, leN]
    have h1 : (c.toNat + 256 * leN t) / 256 = leN t := by omega
    rw [h1, ih]
    congr 1
    apply UInt8.toNat_inj.mp
    rw [UInt8.toNat_ofNat']; omega

/-- byte j of a text -/
theorem leN_byte (l : List UInt8) (j : Nat) (h : j < l.length) : l[j].toNat = leN l / 256 ^ j % 256 := by
  have h1 : (le l.length (leN l))[j]? = some (UInt8.ofNat (leN l / 256 ^ j)) := le_get _ _ _ h
  rw [le_leN, List.getElem?_eq_getElem h] at h1
  rw [Option.some.inj h1, UInt8.toNat_ofNat']

/-- bit b of a text -/
theorem leN_bit (l : List UInt8) (b : Nat) (h : b / 8 < l.length) : l[b / 8].toNat / 2 ^ (b % 8) % 2 = leN l / 2 ^ b % 2 := by
  rw [leN_byte l (b / 8) h]
  have e : 2 ^ b = 256 ^ (b / 8) * 2 ^ (b % 8) := by
    rw [two8, ← Nat.pow_add]; congr 1; omega
  rw [e, ← Nat.div_div_eq_div_mul]
  generalize leN l / 256 ^ (b / 8) = x
  have : b % 8 = 0 ∨ b % 8 = 1 ∨ b % 8 = 2 ∨ b % 8 = 3 ∨ b % 8 = 4 ∨ b % 8 = 5 ∨ b % 8 = 6 ∨ b % 8 = 7 := by omega
  rcases this with h | h | h | h | h | h | h | h <;> rw [h] <;> simp only [Nat.reducePow] <;> omega

/-- one bit more is put into bytes that are 0 from there on -/
theorem le_put (K V b t : Nat) (hV : V < 2 ^ b) (ht : t < 2) (hb : b / 8 < K) :
    (le K V).set (b / 8) (UInt8.ofNat (V / 256 ^ (b / 8) % 256 + t * 2 ^ (b % 8))) = le K (V + t * 2 ^ b) := by
  have e : 2 ^ b = 256 ^ (b / 8) * 2 ^ (b % 8) := by
    rw [two8, ← Nat.pow_add]; congr 1; omega
  have hr : 2 ^ (b % 8) ≤ 128 := by
    have : 2 ^ (b % 8) ≤ 2 ^ 7 := Nat.pow_le_pow_right (by omega) (by omega)
    omega
  generalize hq : b / 8 = q at *
  generalize 2 ^ (b % 8) = R at *
  apply List.ext_getElem?
  intro j
  by_cases hj : j < K
  · rw [le_get K _ j hj, List.getElem?_set]
    have hp := pos256 q
    by_cases hqj : q = j
    · subst hqj
      rw [if_pos rfl, if_pos (by rw [le_length]; exact hb)]
      congr 1
      apply UInt8.toNat_inj.mp
      have : (V + t * 2 ^ b) / 256 ^ q = V / 256 ^ q + t * R := by
        rw [e, Nat.mul_left_comm, Nat.add_mul_div_left _ _ hp]
      rw [this]
      simp only [UInt8.toNat_ofNat']
      omega
    · rw [if_neg hqj, le_get K _ j hj]
      congr 1
      apply UInt8.toNat_inj.mp
      simp only [UInt8.toNat_ofNat']
      show V / 256 ^ j % 256 = (V + t * 2 ^ b) / 256 ^ j % 256
      rcases Nat.lt_or_ge j q with h | h
      · have e2 : t * 2 ^ b = 256 ^ j * (256 * (256 ^ (q - j - 1) * R * t)) := by
          rw [e]
          have : 256 ^ q = 256 ^ j * (256 * 256 ^ (q - j - 1)) := by
            rw [Nat.mul_comm 256, ← Nat.pow_succ, ← Nat.pow_add]; congr 1; omega
          rw [this]; simp only [Nat.mul_comm, Nat.mul_left_comm]
        rw [e2, Nat.add_mul_div_left _ _ (pos256 j), Nat.add_mul_mod_self_left]
      · have h1 : 256 ^ (q + 1) ≤ 256 ^ j := Nat.pow_le_pow_right (by omega) (by omega)
        rw [Nat.pow_succ] at h1
        have h2 : t * 2 ^ b ≤ 2 ^ b := by
          have : t * 2 ^ b ≤ 1 * 2 ^ b := Nat.mul_le_mul_right _ (by omega)
          omega
        have h3 : 2 ^ b ≤ 256 ^ q * 128 := by rw [e]; exact Nat.mul_le_mul_left _ hr
        rw [Nat.div_eq_of_lt (by omega), Nat.div_eq_of_lt (by omega)]
  · rw [List.getElem?_eq_none (by rw [List.length_set, le_length]; omega), List.getElem?_eq_none (by rw [le_length]; omega)]

theorem le_zero (k : Nat) : le k 0 = List.replicate k 0 := by
  induction k with
  | zero => rfl
  | succ k ih => simp [le, ih, List.replicate_succ]

theorem pk_lt (w : Nat) (l : List Nat) (h : ∀ x ∈ l, x < 2 ^ w) : pk w l < 2 ^ (w * l.length) := by
  induction l with
  | nil => simp [pk]
  | cons x l ih =>
    have h1 := ih (fun y hy => h y (by simp [hy]))
    have h2 := h x (by simp)
    simp only [pk, List.length_cons]
    rw [Nat.mul_add, Nat.mul_one, Nat.pow_add, Nat.mul_comm (2 ^ (w * l.length))]
    have h3 : 2 ^ w * (pk w l + 1) ≤ 2 ^ w * 2 ^ (w * l.length) := Nat.mul_le_mul_left _ h1
    rw [Nat.mul_add, Nat.mul_one] at h3
    omega

theorem pk_append (w : Nat) (a b : List Nat) : pk w (a ++ b) = pk w a + 2 ^ (w * a.length) * pk w b := by
  induction a with
  | nil => simp [pk]
  | cons x a ih =>
    simp only [List.cons_append, pk, ih, List.length_cons]
    rw [Nat.mul_add (w), Nat.mul_one, Nat.pow_add, Nat.mul_add (2 ^ w), Nat.mul_comm (2 ^ (w * a.length)) (2 ^ w), Nat.mul_assoc, Nat.add_assoc]

theorem dg_length (w n v : Nat) : (dg w n v).length = n := by
  induction n generalizing v with
  | zero => rfl
  | succ n ih => simp [dg, ih]

theorem dg_pk (w : Nat) (l : List Nat) (h : ∀ x ∈ l, x < 2 ^ w) : dg w l.length (pk w l) = l := by
  induction l with
  | nil => rfl
  | cons x l ih =>
    have h2 := h x (by simp)
    have hp := pos2 w
    simp only [List.length_cons, dg, pk]
    rw [Nat.add_mul_mod_self_left, Nat.mod_eq_of_lt h2, Nat.add_mul_div_left _ _ hp, Nat.div_eq_of_lt h2, Nat.zero_add, ih (fun y hy => h y (by simp [hy]))]

theorem pk_dg (w n v : Nat) : pk w (dg w n v) = v % 2 ^ (w * n) := by
  induction n generalizing v with
  | zero => simp [dg, pk, Nat.mod_one]
  | succ n ih =>
    simp only [dg, pk, ih]
    rw [Nat.mul_add, Nat.mul_one, Nat.pow_add, Nat.mul_comm (2 ^ (w * n)), Nat.mod_mul]

theorem dg_lt (w n v : Nat) : ∀ x ∈ dg w n v, x < 2 ^ w := by
  induction n generalizing v with
  | zero => simp [dg]
  | succ n ih =>
    intro x hx
    rcases List.mem_cons.1 hx with rfl | hx
    · exact Nat.mod_lt _ (pos2 w)
    · exact ih _ x hx

theorem dg_snoc (w n v : Nat) : dg w (n + 1) v = dg w n v ++ [v / 2 ^ (w * n) % 2 ^ w] := by
  induction n generalizing v with
  | zero => simp [dg]
  | succ n ih =>
    rw [dg, ih]
    conv => rhs; rw [dg]
    rw [List.cons_append, Nat.div_div_eq_div_mul, ← Nat.pow_add, Nat.mul_add, Nat.mul_one, Nat.add_comm w]

theorem dg_get (w n v i : Nat) (h : i < n) : (dg w n v).getD i 0 = v / 2 ^ (w * i) % 2 ^ w := by
  induction n generalizing v i with
  | zero => omega
  | succ n ih =>
    match i with
    | 0 => simp [dg]
    | i + 1 =>
      simp only [dg, List.getD_cons_succ]
      rw [ih (v / 2 ^ w) i (by omega), Nat.div_div_eq_div_mul, ← Nat.pow_add, Nat.mul_add, Nat.mul_one, Nat.add_comm w]

/-- bit b of all numbers -/
theorem pk_bit (w : Nat) (l : List Nat) (h : ∀ x ∈ l, x < 2 ^ w) (b : Nat) (hw : 0 < w) (hb : b < l.length * w) :
    pk w l / 2 ^ b % 2 = l.getD (b / w) 0 / 2 ^ (b % w) % 2 := by
  have hi : b / w < l.length := by rw [Nat.div_lt_iff_lt_mul hw]; exact hb
  have h1 := dg_get w l.length (pk w l) (b / w) hi
  rw [dg_pk w l h] at h1
  rw [h1]
  have hd : b = w * (b / w) + b % w := (Nat.div_add_mod b w).symm
  have hm : b % w < w := Nat.mod_lt _ hw
  conv => lhs; rw [hd, Nat.pow_add, ← Nat.div_div_eq_div_mul]
  generalize pk w l / 2 ^ (w * (b / w)) = x
  generalize b % w = r at *
  have e : 2 ^ w = 2 ^ r * (2 * 2 ^ (w - r - 1)) := by
    rw [Nat.mul_comm 2, ← Nat.pow_succ, ← Nat.pow_add]; congr 1; omega
  rw [e, Nat.mod_mul_right_div_self, Nat.mod_mul_right_mod]

theorem le_append (j k u v : Nat) (hu : u < 256 ^ j) : le (j + k) (u + 256 ^ j * v) = le j u ++ le k v := by
  induction j generalizing u with
  | zero =>
    simp only [Nat.pow_zero] at hu
    obtain rfl : u = 0 := by omega
    simp [le]
  | succ j ih =>
    have e1 : j + 1 + k = (j + k) + 1 := by omega
    rw [e1, le, le, List.cons_append]
    rw [Nat.pow_succ] at hu ⊢
    have e2 : (u + 256 ^ j * 256 * v) / 256 = u / 256 + 256 ^ j * v := by
      rw [Nat.mul_comm (256 ^ j), Nat.mul_assoc, Nat.add_mul_div_left _ _ (by omega)]
    rw [e2, ih (u / 256) (by omega)]
    congr 1
    apply UInt8.toNat_inj.mp
    simp only [UInt8.toNat_ofNat']
    rw [Nat.mul_comm (256 ^ j), Nat.mul_assoc]
    show (u + 256 * (256 ^ j * v)) % 256 = u % 256
    omega

/-- how many bits a number has -/
def bl (x : Nat) : Nat := if x = 0 then 0 else x.log2 + 1
theorem bl_le (x k : Nat) : bl x ≤ k ↔ x < 2 ^ k := by
  unfold bl
  split
  · subst_vars; simp [pos2 k]
  · rename_i h
    rw [← Nat.log2_lt h]; omega

theorem bl_or (a b : Nat) : bl (a ||| b) = max (bl a) (bl b) := by
  apply Nat.le_antisymm
  · rw [bl_le]
    apply Nat.or_lt_two_pow
    · exact (bl_le a _).1 (by omega)
    · exact (bl_le b _).1 (by omega)
  · have h : (a ||| b) < 2 ^ bl (a ||| b) := (bl_le _ _).1 (Nat.le_refl _)
    have h1 : a ≤ a ||| b := Nat.left_le_or
    have h2 : b ≤ a ||| b := Nat.right_le_or
    have h3 := (bl_le a (bl (a ||| b))).2 (by omega)
    have h4 := (bl_le b (bl (a ||| b))).2 (by omega)
    omega

def wd : List Nat → Nat
  | [] => 0
  | x :: l => max (bl x) (wd l)
theorem wd_le (l : List Nat) (k : Nat) : wd l ≤ k ↔ ∀ x ∈ l, x < 2 ^ k := by
  induction l with
  | nil => simp [wd]
  | cons x l ih =>
    simp only [wd, List.mem_cons, forall_eq_or_imp]
    rw [← ih, ← bl_le]; omega
theorem wd_snoc (l : List Nat) (x : Nat) : wd (l ++ [x]) = max (wd l) (bl x) := by
  induction l with
  | nil => simp [wd]
  | cons y l ih => simp only [List.cons_append, wd, ih]; omega
theorem wd_64 (l : List Nat) (h : ∀ x ∈ l, x < 18446744073709551616) : wd l ≤ 64 := (wd_le l 64).2 h

def ors : List Nat → Nat
  | [] => 0
  | x :: l => x ||| ors l
theorem bl_ors (l : List Nat) : bl (ors l) = wd l := by
  induction l with
  | nil => rfl
  | cons x l ih => simp only [ors, wd, bl_or, ih]
theorem ors_snoc (l : List Nat) (x : Nat) : ors (l ++ [x]) = ors l ||| x := by
  induction l with
  | nil => simp [ors]
  | cons y l ih => simp only [List.cons_append, ors, ih, Nat.or_assoc]
theorem ors_lt (l : List Nat) (h : ∀ x ∈ l, x < 18446744073709551616) : ors l < 18446744073709551616 := by
  induction l with
  | nil => simp [ors]
  | cons x l ih =>
    have h1 := ih (fun y hy => h y (by simp [hy]))
    have h2 := h x (by simp)
    simp only [ors]
    exact Nat.or_lt_two_pow (n := 64) h2 h1

theorem bitLen_bl (x : Nat) (h : x < 18446744073709551616) : Go.Lib.bitLen x = bl x := by
  have aux : ∀ f x, x < 2 ^ f → Go.Lib.bitLenAux f x = bl x := by
    intro f
    induction f with
    | zero => intro x hx; simp at hx; subst hx; rfl
    | succ f ih =>
      intro x hx
      unfold Go.Lib.bitLenAux
      by_cases h0 : x = 0
      · subst h0; rfl
      · rw [if_neg h0, ih (x / 2) (by rw [Nat.pow_succ] at hx; omega)]
        apply Nat.le_antisymm
        · have h1 : x < 2 ^ bl x := (bl_le _ _).1 (Nat.le_refl _)
          have hp : 0 < bl x := by unfold bl; rw [if_neg h0]; omega
          obtain ⟨k, hk⟩ : ∃ k, bl x = k + 1 := ⟨bl x - 1, by omega⟩
          rw [hk] at h1 ⊢
          rw [Nat.pow_succ] at h1
          have : bl (x / 2) ≤ k := (bl_le _ _).2 (by omega)
          omega
        · rw [bl_le, Nat.add_comm, Nat.pow_succ]
          have : x / 2 < 2 ^ bl (x / 2) := (bl_le _ _).1 (Nat.le_refl _)
          omega
  exact aux 64 x h

end Go.Proofs.Ytpjmpbpbfjemdaa.B
