/- Plain mathematics of books. -/
import Derived.WalkKit
import Derived.Lib.SlicesCompact
import Derived.Sort.KeysCollected
namespace Go.Proofs.Ytbhggbohkddlaaa.T
set_option linter.unusedVariables false
abbrev Tx := List UInt8

/-- rising, each once -/
def Up (b : List Tx) : Prop := b.Pairwise (· < ·)
theorem lt_irr (a : Tx) : ¬ a < a := List.lt_irrefl a
theorem lt_tr {a b c : Tx} (h1 : a < b) (h2 : b < c) : a < c := List.lt_trans h1 h2
theorem le_tr {a b c : Tx} (h1 : a ≤ b) (h2 : b ≤ c) : a ≤ c := List.le_trans h1 h2
theorem not_lt {a b : Tx} : ¬ a < b ↔ b ≤ a := Iff.rfl
theorem lt_of_le_ne {a b : Tx} (h : a ≤ b) (hne : a ≠ b) : a < b := by
  rcases Classical.em (a < b) with h1 | h1
  · exact h1
  · exact absurd (List.le_antisymm h h1) hne
theorem le_of_lt {a b : Tx} (h : a < b) : a ≤ b := fun h2 => lt_irr a (lt_tr h h2)
theorem lt_le {a b c : Tx} (h1 : a < b) (h2 : b ≤ c) : a < c := by
  rcases Classical.em (b = c) with e | e
  · rw [← e]; exact h1
  · exact lt_tr h1 (lt_of_le_ne h2 e)
theorem le_lt {a b c : Tx} (h1 : a ≤ b) (h2 : b < c) : a < c := by
  rcases Classical.em (a = b) with e | e
  · rw [e]; exact h2
  · exact lt_tr (lt_of_le_ne h1 e) h2
theorem tri (a b : Tx) : a < b ∨ a = b ∨ b < a := by
  rcases Classical.em (a < b) with h | h
  · exact Or.inl h
  · rcases Classical.em (b < a) with h2 | h2
    · exact Or.inr (Or.inr h2)
    · exact Or.inr (Or.inl (List.le_antisymm h2 h))

/-- the book of a list -/
def bk (l : List Tx) : List Tx := Lib.compact (l.mergeSort fun x y => decide (x ≤ y))

theorem compact_up (s : List Tx) (hs : s.Pairwise (· ≤ ·)) : Up (Lib.compact s) ∧ ∀ x, x ∈ Lib.compact s ↔ x ∈ s := by
  have get : ∀ j (h : j < s.length), s.toArray[j]! = s[j] := fun j h => by simp [h]
  have hle : ∀ i j (hi : i < s.length) (hj : j < s.length), i ≤ j → s[i] ≤ s[j] := by
    intro i j hi hj hij
    rcases Nat.lt_or_eq_of_le hij with h | h
    · exact List.pairwise_iff_getElem.1 hs i j hi hj h
    · subst h; exact lt_irr _
  have main : ∀ m, m ≤ s.length → Up (Lib.compactUpTo s.toArray m) ∧ ∀ x, x ∈ Lib.compactUpTo s.toArray m ↔ ∃ j, ∃ h : j < s.length, j < m ∧ s[j] = x := by
    intro m
    induction m with
    | zero => intro _; refine ⟨by simp [Lib.compactUpTo, Up], fun x => by simp [Lib.compactUpTo]⟩
    | succ m ih =>
      intro hm
      obtain ⟨h1, h2⟩ := ih (by omega)
      rw [Lib.compactUpTo_succ, get m (by omega)]
      by_cases hk : Lib.keeps s.toArray m = true
      · rw [if_pos hk]
        have hk' : m = 0 ∨ s[m] ≠ s[m - 1] := by
          unfold Lib.keeps at hk
          rw [decide_eq_true_iff, get m (by omega), get (m - 1) (by omega)] at hk
          exact hk
        refine ⟨?_, fun x => ?_⟩
        · refine List.pairwise_append.2 ⟨h1, by simp, fun x hx y hy => ?_⟩
          obtain rfl : y = s[m] := by simpa using hy
          obtain ⟨j, hj, hjm, rfl⟩ := (h2 x).1 hx
          rcases hk' with h | h
          · omega
          · have a1 := hle j (m - 1) hj (by omega) (by omega)
            have a2 := hle (m - 1) m (by omega) (by omega) (by omega)
            exact le_lt a1 (lt_of_le_ne a2 (fun e => h e.symm))
        · rw [List.mem_append, h2 x]
          constructor
          · rintro (⟨j, hj, hjm, rfl⟩ | h)
            · exact ⟨j, hj, by omega, rfl⟩
            · exact ⟨m, by omega, by omega, (by simpa using h : x = s[m]).symm⟩
          · rintro ⟨j, hj, hjm, rfl⟩
            by_cases e : j = m
            · subst e; exact Or.inr (by simp)
            · exact Or.inl ⟨j, hj, by omega, rfl⟩
      · rw [if_neg hk, List.append_nil]
        refine ⟨h1, fun x => ?_⟩
        have hk' : m ≠ 0 ∧ s[m] = s[m - 1] := by
          unfold Lib.keeps at hk
          rw [decide_eq_true_iff, get m (by omega), get (m - 1) (by omega)] at hk
          exact ⟨fun e => hk (Or.inl e), Classical.byContradiction fun e => hk (Or.inr e)⟩
        rw [h2 x]
        constructor
        · rintro ⟨j, hj, hjm, rfl⟩; exact ⟨j, hj, by omega, rfl⟩
        · rintro ⟨j, hj, hjm, rfl⟩
          by_cases e : j = m
          · subst e; exact ⟨j - 1, by omega, by have := hk'.1; omega, hk'.2.symm⟩
          · exact ⟨j, hj, by omega, rfl⟩
  have h := main s.length (Nat.le_refl _)
  unfold Lib.compact
  refine ⟨h.1, fun x => ?_⟩
  rw [h.2 x]
  constructor
  · rintro ⟨j, hj, _, rfl⟩; exact List.getElem_mem hj
  · intro hx
    obtain ⟨j, hj, e⟩ := List.mem_iff_getElem.1 hx
    exact ⟨j, hj, hj, e⟩

theorem sorted (l : List Tx) : (l.mergeSort fun x y => decide (x ≤ y)).Pairwise (· ≤ ·) := by
  have tr : ∀ a b c : Tx, decide (a ≤ b) = true → decide (b ≤ c) = true → decide (a ≤ c) = true := fun a b c h1 h2 => by
    rw [decide_eq_true_iff] at *; exact List.le_trans h1 h2
  have to : ∀ a b : Tx, (decide (a ≤ b) || decide (b ≤ a)) = true := fun a b => by
    rw [Bool.or_eq_true, decide_eq_true_iff, decide_eq_true_iff]; exact List.le_total a b
  exact (List.pairwise_mergeSort tr to l).imp (fun h => by simpa using h)
theorem bk_up (l : List Tx) : Up (bk l) := (compact_up _ (sorted l)).1
theorem bk_mem (l : List Tx) (x : Tx) : x ∈ bk l ↔ x ∈ l := by
  unfold bk
  rw [(compact_up _ (sorted l)).2 x]
  exact (List.mergeSort_perm l _).mem_iff

theorem up_get {b : List Tx} (h : Up b) {i j : Nat} (hi : i < b.length) (hj : j < b.length) (hij : i < j) : b[i] < b[j] := List.pairwise_iff_getElem.1 h i j hi hj hij
theorem up_inj {b : List Tx} (h : Up b) {i j : Nat} (hi : i < b.length) (hj : j < b.length) (e : b[i] = b[j]) : i = j := by
  rcases Nat.lt_trichotomy i j with hh | hh | hh
  · have := up_get h hi hj hh; rw [e] at this; exact absurd this (lt_irr _)
  · exact hh
  · have := up_get h hj hi hh; rw [e] at this; exact absurd this (lt_irr _)
theorem up_lt {b : List Tx} (h : Up b) {i j : Nat} (hi : i < b.length) (hj : j < b.length) : b[i] < b[j] ↔ i < j := by
  constructor
  · intro hh
    rcases Nat.lt_trichotomy i j with k | k | k
    · exact k
    · subst k; exact absurd hh (lt_irr _)
    · exact absurd (lt_tr hh (up_get h hj hi k)) (lt_irr _)
  · exact up_get h hi hj
theorem up_nodup {b : List Tx} (h : Up b) : b.Nodup := h.imp (fun {a c} hh e => by rw [e] at hh; exact lt_irr _ hh)

/-- the place of a text: of the first one that is not below it -/
def plc (b : List Tx) (x : Tx) : Nat := b.findIdx fun y => !decide (y < x)
/-- of the first one that is above it -/
def plA (b : List Tx) (x : Tx) : Nat := b.findIdx fun y => decide (x < y)
theorem plc_le (b : List Tx) (x : Tx) : plc b x ≤ b.length := List.findIdx_le_length
theorem plA_le (b : List Tx) (x : Tx) : plA b x ≤ b.length := List.findIdx_le_length
theorem plc_at {b : List Tx} (h : Up b) {i : Nat} (hi : i < b.length) : plc b b[i] = i := by
  unfold plc
  rw [List.findIdx_eq hi]
  refine ⟨by simp [lt_irr], fun j hj => ?_⟩
  have := up_get h (by omega) hi hj
  simp [this]
theorem plc_mem {b : List Tx} (h : Up b) {x : Tx} (hx : x ∈ b) : plc b x < b.length ∧ b.getD (plc b x) [] = x := by
  obtain ⟨i, hi, rfl⟩ := List.mem_iff_getElem.1 hx
  rw [plc_at h hi]
  exact ⟨hi, by simp [List.getD, List.getElem?_eq_getElem hi]⟩
theorem plc_lt {b : List Tx} (h : Up b) {x y : Tx} (hx : x ∈ b) (hy : y ∈ b) : plc b x < plc b y ↔ x < y := by
  obtain ⟨i, hi, rfl⟩ := List.mem_iff_getElem.1 hx
  obtain ⟨j, hj, rfl⟩ := List.mem_iff_getElem.1 hy
  rw [plc_at h hi, plc_at h hj, up_lt h hi hj]
theorem plc_eq {b : List Tx} (h : Up b) {x y : Tx} (hx : x ∈ b) (hy : y ∈ b) : plc b x = plc b y ↔ x = y := by
  obtain ⟨i, hi, rfl⟩ := List.mem_iff_getElem.1 hx
  obtain ⟨j, hj, rfl⟩ := List.mem_iff_getElem.1 hy
  rw [plc_at h hi, plc_at h hj]
  exact ⟨fun e => by subst e; rfl, up_inj h hi hj⟩
/-- at or behind the place of low: not below low -/
theorem plc_ge {b : List Tx} (h : Up b) (low : Tx) {i : Nat} (hi : i < b.length) : plc b low ≤ i ↔ low ≤ b[i] := by
  constructor
  · intro hp
    have hlt : plc b low < b.length := by omega
    have h1 := List.findIdx_getElem (w := hlt)
    have h2 : ¬ b[plc b low] < low := by
      have h3 := h1
      simp only [Bool.not_eq_true', decide_eq_false_iff_not] at h3
      exact h3
    rcases Nat.lt_or_eq_of_le hp with k | k
    · exact le_tr h2 (le_of_lt (up_get h hlt hi k))
    · have : b[plc b low] = b[i] := by congr 1
      rw [← this]; exact h2
  · intro hl
    rcases Nat.lt_or_ge i (plc b low) with k | k
    · have := List.not_of_lt_findIdx k
      have h2 : b[i] < low := by simpa using this
      exact absurd h2 hl
    · exact k
theorem plA_gt {b : List Tx} (h : Up b) (high : Tx) {i : Nat} (hi : i < b.length) : plA b high ≤ i ↔ high < b[i] := by
  constructor
  · intro hp
    have hlt : plA b high < b.length := by omega
    have h1 := List.findIdx_getElem (w := hlt)
    have h2 : high < b[plA b high] := by
      have h3 := h1
      simp only [decide_eq_true_eq] at h3
      exact h3
    rcases Nat.lt_or_eq_of_le hp with k | k
    · exact lt_tr h2 (up_get h hlt hi k)
    · have : b[plA b high] = b[i] := by congr 1
      rw [← this]; exact h2
  · intro hl
    rcases Nat.lt_or_ge i (plA b high) with k | k
    · have := List.not_of_lt_findIdx k
      have h2 : ¬ high < b[i] := by simpa using this
      exact absurd hl h2
    · exact k
end Go.Proofs.Ytbhggbohkddlaaa.T
