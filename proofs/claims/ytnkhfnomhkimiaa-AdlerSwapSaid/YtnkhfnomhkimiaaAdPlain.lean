/- Sums that roll: two halves, each modulo 65521, and the laws of texts that are put together, rolled on, or changed. -/
import Derived.Test.YtnkhfnomhkimiaaBaseC
namespace Go.Proofs.Ytnkhfnomhkimiaa.Ad

/-- alike modulo 65521 -/
def E (a b : Nat) : Prop := a % 65521 = b % 65521
theorem E.rfl {a : Nat} : E a a := Eq.refl _
theorem E.of {a b : Nat} (h : a = b) : E a b := by subst h; exact E.rfl
theorem E.symm {a b : Nat} (h : E a b) : E b a := Eq.symm h
theorem E.trans {a b c : Nat} (h : E a b) (k : E b c) : E a c := Eq.trans h k
theorem E.add {a b c d : Nat} (h : E a b) (k : E c d) : E (a + c) (b + d) := by unfold E at *; omega
theorem E.mul {a b c d : Nat} (h : E a b) (k : E c d) : E (a * c) (b * d) := by
  unfold E at *
  rw [Nat.mul_mod, h, k, ← Nat.mul_mod]
theorem E.mod (a : Nat) : E (a % 65521) a := by unfold E; omega
theorem E.off {a b c : Nat} (h : E (a + c) (b + c)) : E a b := by unfold E at *; omega
theorem E.lt {a b : Nat} (h : E a b) (ha : a < 65521) (hb : b < 65521) : a = b := by unfold E at *; omega

/-- both halves behind a byte more, behind a text -/
def stp (p : Nat × Nat) (b : UInt8) : Nat × Nat := ((p.1 + b.toNat) % 65521, (p.2 + (p.1 + b.toNat) % 65521) % 65521)
def run (p : Nat × Nat) (s : List UInt8) : Nat × Nat := s.foldl stp p
def lo (c : Nat) : Nat := c % 65536 % 65521
def hi (c : Nat) : Nat := c / 65536 % 65521
def sum (p : Nat × Nat) : Nat := p.2 * 65536 + p.1
def more (c : Nat) (s : List UInt8) : Nat := sum (run (lo c, hi c) s)
def of (s : List UInt8) : Nat := more 1 s

/-- all bytes together; the bytes by their weights -/
def S : List UInt8 → Nat
  | [] => 0
  | b :: t => b.toNat + S t
def Wt : List UInt8 → Nat
  | [] => 0
  | b :: t => (t.length + 1) * b.toNat + Wt t
theorem S_append (s t : List UInt8) : S (s ++ t) = S s + S t := by
  induction s with
  | nil => simp [S]
  | cons b s ih => simp only [List.cons_append, S, ih]; omega
theorem W_append (s t : List UInt8) : Wt (s ++ t) = Wt s + t.length * S s + Wt t := by
  induction s with
  | nil => simp [S, Wt]
  | cons b s ih =>
    simp only [List.cons_append, S, Wt, ih, List.length_append, Nat.mul_add, Nat.add_mul, Nat.one_mul]
    omega

def Ok (p : Nat × Nat) : Prop := p.1 < 65521 ∧ p.2 < 65521
theorem lo_lt (c : Nat) : lo c < 65521 := Nat.mod_lt _ (by omega)
theorem hi_lt (c : Nat) : hi c < 65521 := Nat.mod_lt _ (by omega)
theorem ok_c (c : Nat) : Ok (lo c, hi c) := ⟨lo_lt c, hi_lt c⟩
theorem stp_ok (p : Nat × Nat) (b : UInt8) : Ok (stp p b) := ⟨Nat.mod_lt _ (by omega), Nat.mod_lt _ (by omega)⟩
theorem run_ok (s : List UInt8) (p : Nat × Nat) (h : Ok p) : Ok (run p s) := by
  induction s generalizing p with
  | nil => exact h
  | cons b s ih => exact ih _ (stp_ok p b)
theorem run_snoc (s : List UInt8) (b : UInt8) (p : Nat × Nat) : run p (s ++ [b]) = stp (run p s) b := by simp [run]
theorem run_append (s t : List UInt8) (p : Nat × Nat) : run p (s ++ t) = run (run p s) t := List.foldl_append
theorem run_E (s : List UInt8) (p : Nat × Nat) : E (run p s).1 (p.1 + S s) ∧ E (run p s).2 (p.2 + s.length * p.1 + Wt s) := by
  induction s generalizing p with
  | nil => exact ⟨E.of (by simp [run, S]), E.of (by simp [run, Wt])⟩
  | cons b s ih =>
    have h := ih (stp p b)
    refine ⟨h.1.trans ?_, h.2.trans ?_⟩
    · show E ((p.1 + b.toNat) % 65521 + S s) (p.1 + (b.toNat + S s))
      unfold E; omega
    · show E ((p.2 + (p.1 + b.toNat) % 65521) % 65521 + s.length * ((p.1 + b.toNat) % 65521) + Wt s) (p.2 + (s.length + 1) * p.1 + ((s.length + 1) * b.toNat + Wt s))
      have h1 : E ((p.2 + (p.1 + b.toNat) % 65521) % 65521) (p.2 + (p.1 + b.toNat)) := by unfold E; omega
      have h2 : E (s.length * ((p.1 + b.toNat) % 65521)) (s.length * (p.1 + b.toNat)) := E.rfl.mul (E.mod _)
      refine ((h1.add h2).add E.rfl).trans (E.of ?_)
      simp only [Nat.mul_add, Nat.add_mul, Nat.one_mul]
      omega
theorem sum_inj {p q : Nat × Nat} (hp : Ok p) (hq : Ok q) : sum p = sum q ↔ p = q := by
  obtain ⟨a, b⟩ := p; obtain ⟨c, d⟩ := q
  unfold sum Ok at *
  simp only [Prod.mk.injEq] at *
  omega
theorem lo_sum {p : Nat × Nat} (hp : Ok p) : lo (sum p) = p.1 := by unfold lo sum Ok at *; omega
theorem hi_sum {p : Nat × Nat} (hp : Ok p) : hi (sum p) = p.2 := by unfold hi sum Ok at *; omega
theorem sum_lt {p : Nat × Nat} (hp : Ok p) : sum p < 4294967296 := by unfold sum Ok at *; omega
theorem more_lt (c : Nat) (s : List UInt8) : more c s < 4294967296 := sum_lt (run_ok s _ (ok_c c))
theorem of_lt (s : List UInt8) : of s < 4294967296 := more_lt 1 s
theorem lo_of (s : List UInt8) : lo (of s) = (run (1, 0) s).1 := lo_sum (run_ok s _ (ok_c 1))
theorem hi_of (s : List UInt8) : hi (of s) = (run (1, 0) s).2 := hi_sum (run_ok s _ (ok_c 1))
theorem more_of (s t : List UInt8) : more (of s) t = of (s ++ t) := by
  unfold more
  rw [lo_of, hi_of]
  unfold of more
  rw [run_append]; rfl

/-- two texts, one behind the other -/
def joined (a b n : Nat) : Nat := sum ((lo b + (lo a + 65520)) % 65521, (hi a + hi b + n % 65521 * (lo a + 65520)) % 65521)
theorem joined_of (s t : List UInt8) : joined (of s) (of t) t.length = of (s ++ t) := by
  have hs := run_E s (1, 0)
  have ht := run_E t (1, 0)
  have hst := run_E (s ++ t) (1, 0)
  unfold joined
  rw [lo_of, lo_of, hi_of, hi_of]
  show sum _ = sum (run (1, 0) (s ++ t))
  rw [sum_inj ⟨Nat.mod_lt _ (by omega), Nat.mod_lt _ (by omega)⟩ (run_ok _ _ ⟨by decide, by decide⟩)]
  have hok := run_ok (s ++ t) (1, 0) ⟨by decide, by decide⟩
  refine Prod.ext ?_ ?_
  · refine E.lt ((E.mod _).trans (E.trans ?_ hst.1.symm)) (Nat.mod_lt _ (by omega)) hok.1
    rw [S_append]
    refine (ht.1.add (hs.1.add E.rfl)).trans ?_
    unfold E
    simp only
    omega
  · refine E.lt ((E.mod _).trans (E.trans ?_ hst.2.symm)) (Nat.mod_lt _ (by omega)) hok.2
    rw [W_append]
    have h3 : E (t.length % 65521 * ((run (1, 0) s).1 + 65520)) (t.length * (1 + S s + 65520)) := (E.mod _).mul (hs.1.add E.rfl)
    refine ((hs.2.add ht.2).add h3).trans ?_
    simp only [List.length_append, Nat.mul_add, Nat.mul_one, Nat.zero_add]
    unfold E
    omega

/-- a window that rolls on -/
def rolled (c n out inn : Nat) : Nat :=
  sum ((lo c + 65521 - out + inn) % 65521, (hi c + (lo c + 65521 - out + inn) + 65521 - (1 + n % 65521 * out) % 65521) % 65521)
theorem rolled_of (b x : UInt8) (t : List UInt8) : rolled (of (b :: t)) (t.length + 1) b.toNat x.toNat = of (t ++ [x]) := by
  have hs := run_E (b :: t) (1, 0)
  have hst := run_E (t ++ [x]) (1, 0)
  have hb := UInt8.toNat_lt b
  unfold rolled
  rw [lo_of, hi_of]
  show sum _ = sum (run (1, 0) (t ++ [x]))
  rw [sum_inj ⟨Nat.mod_lt _ (by omega), Nat.mod_lt _ (by omega)⟩ (run_ok _ _ ⟨by decide, by decide⟩)]
  have hok := run_ok (t ++ [x]) (1, 0) ⟨by decide, by decide⟩
  rw [S_append] at hst
  rw [W_append] at hst
  have h3 : E (1 + (t.length + 1) % 65521 * b.toNat) (1 + (t.length + 1) * b.toNat) := E.rfl.add ((E.mod _).mul E.rfl)
  generalize (1 + (t.length + 1) % 65521 * b.toNat) = m at *
  generalize run (1, 0) (b :: t) = p at *
  generalize run (1, 0) (t ++ [x]) = q at *
  obtain ⟨a1, a2⟩ := p
  obtain ⟨b1, b2⟩ := q
  simp only [S, Wt, List.length_cons, List.length_append, List.length_nil, Nat.mul_one, Nat.zero_add, Nat.one_mul, Nat.add_zero] at *
  generalize (t.length + 1) * b.toNat = v at *
  generalize S t = s1 at *
  generalize Wt t = w1 at *
  generalize b.toNat = bn at *
  generalize x.toNat = xn at *
  generalize t.length = n at *
  obtain ⟨h1, h2⟩ := hs
  obtain ⟨k1, k2⟩ := hst
  unfold Ok at hok
  unfold E at *
  simp only at *
  refine Prod.ext ?_ ?_
  · simp only; omega
  · simp only; omega

theorem same_of (s t : List UInt8) : of s = of t ↔ run (1, 0) s = run (1, 0) t :=
  sum_inj (run_ok s _ ⟨by decide, by decide⟩) (run_ok t _ ⟨by decide, by decide⟩)
/-- a byte changed -/
theorem byte_of (s t : List UInt8) (b x : UInt8) : (of (s ++ [b] ++ t) == of (s ++ [x] ++ t)) = (x == b) := by
  by_cases h : x = b
  · subst h; simp
  · rw [show (x == b) = false by simpa using h, beq_eq_false_iff_ne]
    intro he
    rw [same_of] at he
    have h1 := (run_E (s ++ [b] ++ t) (1, 0)).1
    have h2 := (run_E (s ++ [x] ++ t) (1, 0)).1
    rw [he] at h1
    have h3 := h1.symm.trans h2
    simp only [S_append, S] at h3
    have hb := UInt8.toNat_lt b
    have hx := UInt8.toNat_lt x
    have : x.toNat ≠ b.toNat := fun e => h (UInt8.toNat_inj.1 e)
    unfold E at h3
    omega
/-- two changed about -/
theorem swap_of (s t : List UInt8) (b x : UInt8) : (of (s ++ [x] ++ [b] ++ t) == of (s ++ [b] ++ [x] ++ t)) = (b == x) := by
  by_cases h : b = x
  · subst h; simp
  · rw [show (b == x) = false by simpa using h, beq_eq_false_iff_ne]
    intro he
    rw [same_of] at he
    have h1 := (run_E (s ++ [x] ++ [b] ++ t) (1, 0)).2
    have h2 := (run_E (s ++ [b] ++ [x] ++ t) (1, 0)).2
    rw [he] at h1
    have h3 := h1.symm.trans h2
    have hb := UInt8.toNat_lt b
    have hx := UInt8.toNat_lt x
    have hne : b.toNat ≠ x.toNat := fun e => h (UInt8.toNat_inj.1 e)
    simp only [S_append, W_append, S, Wt, List.length_append, List.length_cons, List.length_nil, Nat.add_zero, Nat.zero_add, Nat.one_mul, Nat.mul_one, Nat.mul_add] at h3
    generalize t.length * x.toNat = u at *
    generalize t.length * b.toNat = v at *
    generalize t.length * S s = z at *
    generalize Wt t = y at *
    generalize Wt s = y' at *
    generalize t.length = n at *
    generalize s.length = n' at *
    unfold E at h3
    omega

/-- the reference's sum: the lower half grows on, the upper one by weights -/
def rst (n : Nat) (i : Nat) (p : Nat × Nat) (b : UInt8) : Nat × Nat := (p.1 + b.toNat, (p.2 + (n - i) % 65521 * b.toNat) % 65521)
def rrun (p : Nat × Nat) : List UInt8 → Nat × Nat
  | [] => p
  | b :: t => rrun (p.1 + b.toNat, (p.2 + (t.length + 1) % 65521 * b.toNat) % 65521) t
theorem rrun_E (s : List UInt8) (p : Nat × Nat) : (rrun p s).1 = p.1 + S s ∧ E (rrun p s).2 (p.2 + Wt s) := by
  induction s generalizing p with
  | nil => exact ⟨rfl, E.rfl⟩
  | cons b s ih =>
    have h := ih (p.1 + b.toNat, (p.2 + (s.length + 1) % 65521 * b.toNat) % 65521)
    refine ⟨h.1.trans (by simp only [S]; omega), h.2.trans ?_⟩
    show E ((p.2 + (s.length + 1) % 65521 * b.toNat) % 65521 + Wt s) (p.2 + ((s.length + 1) * b.toNat + Wt s))
    have h1 : E ((p.2 + (s.length + 1) % 65521 * b.toNat) % 65521) (p.2 + (s.length + 1) * b.toNat) := (E.mod _).trans (E.rfl.add ((E.mod _).mul E.rfl))
    refine (h1.add E.rfl).trans (E.of (by omega))
def rmore (c : Nat) (s : List UInt8) : Nat :=
  let r := rrun (lo c, hi c + s.length % 65521 * lo c) s
  r.2 % 65521 * 65536 + r.1 % 65521
theorem rmore_is (c : Nat) (s : List UInt8) : rmore c s = more c s := by
  have h := run_E s (lo c, hi c)
  have hok := run_ok s _ (ok_c c)
  have k := rrun_E s (lo c, hi c + s.length % 65521 * lo c)
  unfold rmore more sum
  have e1 : (rrun (lo c, hi c + s.length % 65521 * lo c) s).1 % 65521 = (run (lo c, hi c) s).1 :=
    E.lt ((E.mod _).trans ((E.of k.1).trans h.1.symm)) (Nat.mod_lt _ (by omega)) hok.1
  have e2 : (rrun (lo c, hi c + s.length % 65521 * lo c) s).2 % 65521 = (run (lo c, hi c) s).2 := by
    refine E.lt ((E.mod _).trans (k.2.trans (E.trans ?_ h.2.symm))) (Nat.mod_lt _ (by omega)) hok.2
    exact (E.rfl.add ((E.mod _).mul E.rfl)).add E.rfl
  simp only [e1, e2]
/-- the reference's two other calls -/
def rjoined (a b n : Nat) : Nat := (hi a + hi b + n % 65521 * ((lo a + 65520) % 65521)) % 65521 * 65536 + (lo a + lo b + 65520) % 65521
theorem rjoined_is (a b n : Nat) : rjoined a b n = joined a b n := by
  unfold rjoined joined sum
  have h1 : E (hi a + hi b + n % 65521 * ((lo a + 65520) % 65521)) (hi a + hi b + n % 65521 * (lo a + 65520)) := E.rfl.add (E.rfl.mul (E.mod _))
  unfold E at h1
  rw [h1, show lo a + lo b + 65520 = lo b + (lo a + 65520) by omega]
def rrolled (c n out inn : Nat) : Nat :=
  (hi c + 65521 * 256 - n % 65521 * out % 65521 + (lo c + 65521 - out + inn) % 65521 + 65520) % 65521 * 65536 + (lo c + 65521 - out + inn) % 65521
theorem rrolled_is (c n out inn : Nat) : rrolled c n out inn = rolled c n out inn := by
  unfold rrolled rolled sum
  generalize n % 65521 * out = m
  generalize (lo c + 65521 - out + inn) = l
  simp only
  have : (hi c + 65521 * 256 - m % 65521 + l % 65521 + 65520) % 65521 = (hi c + l + 65521 - (1 + m) % 65521) % 65521 := by omega
  rw [this]
end Go.Proofs.Ytnkhfnomhkimiaa.Ad
