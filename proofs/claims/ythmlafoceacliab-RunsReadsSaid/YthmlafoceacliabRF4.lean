/- Plain mathematics of runs with their places. -/
import Derived.Test.YthmlafoceacliabRF2
namespace Go.Proofs.Ythmlafoceacliab
open Go.RowKit
set_option linter.unusedVariables false

theorem wrap_in (n : Int) (h : -9223372036854775808 ≤ n ∧ n ≤ 9223372036854775807) : wrap64 n = n := (IntWalk.i64_left n).symm.trans (IntWalk.i64_in n h)

def frG (f : Int) (l : List R.Run) (k : Nat) : Int := (l.take k).foldl (fun f r => wrap64 (f + r.2)) f
def plcF : Int → List R.Run → List PX
  | _, [] => []
  | f, r :: l => (f, r.1, r.2) :: plcF (wrap64 (f + r.2)) l
theorem plcG_eq (l : List R.Run) : ∀ f, ((List.range l.length).map fun k => (frG f l k, (l.getD k (0, 0)).1, (l.getD k (0, 0)).2)) = plcF f l := by
  induction l with
  | nil => intro f; rfl
  | cons r l ih =>
    intro f
    rw [List.length_cons, List.range_succ_eq_map, List.map_cons, List.map_map, plcF, ← ih]
    simp only [frG, List.take_zero, List.foldl_nil, List.getD_cons_zero, List.cons.injEq, true_and]
    apply List.map_congr_left
    intro k _
    simp
theorem plc_eq (l : List R.Run) : plc l = plcF 0 l := plcG_eq l 0

theorem er_chk (l : List R.Run) : ∀ (f : Int) (last : Nat) (prev : Option Nat), 0 ≤ f → f ≤ 64 → (prev = if 0 < f then some last else none) →
    er last (plcF f l) = R.chkL prev f l ∧ (R.chkL prev f l = 0 → endOf f (plcF f l) = f + R.sumR l) := by
  induction l with
  | nil => intro f last prev _ _ _; exact ⟨rfl, fun _ => by simp [plcF, endOf, R.sumR]⟩
  | cons r l ih =>
    intro f last prev h0 h64 hp
    simp only [plcF, er, endOf, R.chkL, stp, R.sumR]
    by_cases h1 : r.2 < 1 ∨ 64 < r.2
    · simp only [if_pos h1]
      exact ⟨rfl, fun h => absurd h (by omega)⟩
    simp only [if_neg h1]
    have hw : wrap64 (f + r.2) = f + r.2 := wrap_in _ (by omega)
    rw [hw]
    have hq : (0 < f ∧ r.1 = last) ↔ prev = some r.1 := by
      rw [hp]
      by_cases hf : 0 < f
      · rw [if_pos hf]; simp only [Option.some.injEq]; exact ⟨fun h => h.2.symm, fun h => ⟨hf, h.symm⟩⟩
      · rw [if_neg hf]; simp [hf]
    by_cases h2 : prev = some r.1
    · simp only [if_pos h2, if_pos (hq.2 h2)]
      exact ⟨rfl, fun h => absurd h (by omega)⟩
    simp only [if_neg h2, if_neg (fun h => h2 (hq.1 h))]
    by_cases h3 : 64 < f + r.2
    · simp only [if_pos h3]
      exact ⟨rfl, fun h => absurd h (by omega)⟩
    simp only [if_neg h3, if_true]
    obtain ⟨i1, i2⟩ := ih (f + r.2) r.1 (some r.1) (by omega) (by omega) (by rw [if_pos (by omega)])
    exact ⟨i1, fun h => by rw [i2 h]; omega⟩
theorem er_plc (l : List R.Run) : er 0 (plc l) = R.chk l := by rw [plc_eq]; exact (er_chk l 0 0 none (by omega) (by omega) (by simp)).1
theorem end_plc (l : List R.Run) (h : R.chk l = 0) : endOf 0 (plc l) = R.sumR l := by
  rw [plc_eq, (er_chk l 0 0 none (by omega) (by omega) (by simp)).2 h]; omega

/-- the number at a place -/
def atF (k : Int) : List PX → Option Nat
  | [] => none
  | x :: xs => if k < wrap64 (x.1 + x.2.2) then some x.2.1 else atF k xs
theorem atF_append (k : Int) (pre post : List PX) : atF k (pre ++ post) = if (atF k pre).isSome then atF k pre else atF k post := by
  induction pre with
  | nil => simp [atF]
  | cons x pre ih =>
    simp only [List.cons_append, atF]
    by_cases h : k < wrap64 (x.1 + x.2.2)
    · simp [h]
    · simp [h, ih]
theorem at_plc (l : List R.Run) : ∀ (f k : Nat), R.good l → (f : Int) + R.sumR l ≤ 64 → f ≤ k →
    atF k (plcF f l) = if (k : Int) < f + R.sumR l then some ((R.ex l).getD (k - f) 0) else none := by
  induction l with
  | nil => intro f k _ _ h; rw [if_neg (by simp [R.sumR]; omega)]; rfl
  | cons r l ih =>
    intro f k g hs hfk
    have hr := R.good_head _ _ g
    have hn := R.sum_nonneg l (R.good_tail _ _ g)
    have hsr : R.sumR (r :: l) = r.2 + R.sumR l := rfl
    rw [hsr] at hs ⊢
    simp only [plcF, atF]
    have hw : wrap64 ((f : Int) + r.2) = f + r.2 := wrap_in _ (by omega)
    rw [hw]
    obtain ⟨x, m⟩ := r
    obtain ⟨m, rfl⟩ : ∃ n : Nat, m = n := ⟨m.toNat, by simp only at hr; omega⟩
    simp only at hr hs hw ⊢
    by_cases h : (k : Int) < f + m
    · rw [if_pos h, if_pos (by omega), R.ex_cons]
      simp only [Int.toNat_natCast]
      rw [List.getD_eq_getElem?_getD, List.getElem?_append_left (by simp; omega), List.getElem?_replicate]
      simp [show k - f < m by omega]
    · rw [if_neg h]
      have := ih (f + m) k (R.good_tail _ _ g) (by omega) (by omega)
      rw [show ((f : Int) + (m : Int)) = ((f + m : Nat) : Int) by omega, this, R.ex_cons]
      simp only [Int.toNat_natCast]
      by_cases h2 : (k : Int) < ((f + m : Nat) : Int) + R.sumR l
      · rw [if_pos h2, if_pos (by omega)]
        rw [List.getD_eq_getElem?_getD, List.getD_eq_getElem?_getD, List.getElem?_append_right (by simp; omega), List.length_replicate, show k - f - m = k - (f + m) by omega]
      · rw [if_neg h2, if_neg (by omega)]

/-- numbers that are written at their places -/
def wrN (acc : List Nat) (f n : Nat) : Nat → List Nat
  | 0 => acc
  | k + 1 => (wrN acc f n k).set (f + k) n
theorem wrN_length (acc : List Nat) (f n k : Nat) : (wrN acc f n k).length = acc.length := by
  induction k with
  | zero => rfl
  | succ k ih => simp [wrN, ih]
def outF (acc : List Nat) (xs : List PX) : List Nat := xs.foldl (fun a x => wrN a x.1.toNat x.2.1 x.2.2.toNat) acc
theorem outF_length (xs : List PX) : ∀ acc, (outF acc xs).length = acc.length := by
  induction xs with
  | nil => intro acc; rfl
  | cons x xs ih => intro acc; simp only [outF, List.foldl_cons] at *; rw [ih, wrN_length]
theorem outF_snoc (acc : List Nat) (xs : List PX) (x : PX) : outF acc (xs ++ [x]) = wrN (outF acc xs) x.1.toNat x.2.1 x.2.2.toNat := by simp [outF]
theorem wrN_fill (A : List Nat) (n m : Nat) : ∀ j, wrN (A ++ List.replicate (m + j) 0) A.length n m = A ++ List.replicate m n ++ List.replicate j 0 := by
  induction m with
  | zero => intro j; simp [wrN]
  | succ m ih =>
    intro j
    simp only [wrN]
    rw [show m + 1 + j = m + (j + 1) by omega, ih (j + 1), List.replicate_succ, List.set_append_right _ _ (by simp)]
    simp [List.replicate_succ']
theorem out_plc (l : List R.Run) : ∀ (A : List Nat), R.good l → (A.length : Int) + R.sumR l ≤ 64 → outF (A ++ List.replicate (R.sumR l).toNat 0) (plcF A.length l) = A ++ R.ex l := by
  induction l with
  | nil => intro A _ _; simp [outF, plcF, R.sumR, R.ex]
  | cons r l ih =>
    intro A g hs
    have hr := R.good_head _ _ g
    have hn := R.sum_nonneg l (R.good_tail _ _ g)
    obtain ⟨x, m⟩ := r
    obtain ⟨m, rfl⟩ : ∃ n : Nat, m = n := ⟨m.toNat, by simp only at hr; omega⟩
    simp only [R.sumR] at hs ⊢
    simp only [plcF]
    rw [wrap_in _ (by omega)]
    have e : ((m : Int) + R.sumR l).toNat = m + (R.sumR l).toNat := by omega
    simp only [outF, List.foldl_cons]
    rw [e, Int.toNat_natCast, Int.toNat_natCast, wrN_fill]
    have := ih (A ++ List.replicate m x) (R.good_tail _ _ g) (by simp; omega)
    rw [List.length_append, List.length_replicate] at this
    rw [show ((A.length : Int) + (m : Int)) = ((A.length + m : Nat) : Int) by omega]
    simp only [outF] at this
    rw [this, R.ex_cons]
    simp
theorem plc_bounds (l : List R.Run) : ∀ (f : Nat), R.good l → (f : Int) + R.sumR l ≤ 64 → ∀ x ∈ plcF f l, 0 ≤ x.1 ∧ 0 ≤ x.2.2 ∧ x.1 + x.2.2 ≤ f + R.sumR l := by
  induction l with
  | nil => intro f _ _ x hx; simp [plcF] at hx
  | cons r l ih =>
    intro f g hs x hx
    have hr := R.good_head _ _ g
    have hn := R.sum_nonneg l (R.good_tail _ _ g)
    obtain ⟨y, m⟩ := r
    obtain ⟨m, rfl⟩ : ∃ n : Nat, m = n := ⟨m.toNat, by simp only at hr; omega⟩
    simp only [R.sumR] at hs ⊢
    simp only [plcF] at hx
    rcases List.mem_cons.1 hx with rfl | hx
    · simp; omega
    · rw [wrap_in _ (by omega), show ((f : Int) + (m : Int)) = ((f + m : Nat) : Int) by omega] at hx
      have := ih (f + m) (R.good_tail _ _ g) (by omega) x hx
      omega
end Go.Proofs.Ythmlafoceacliab
