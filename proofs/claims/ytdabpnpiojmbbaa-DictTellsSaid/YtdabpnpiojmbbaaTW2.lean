/- The walks of dict.Check, Find, Span. -/
import Derived.Test.YtdabpnpiojmbbaaTW1
namespace Go.Proofs.Ytdabpnpiojmbbaa
open Go.RowKit
set_option linter.unusedVariables false

/-- each is above the one before -/
def rise : List (List UInt8) → Bool
  | [] => true
  | [_] => true
  | x :: y :: t => decide (x < y) && rise (y :: t)
theorem rise_up : ∀ b : List (List UInt8), rise b = true ↔ T.Up b := by
  intro b
  induction b with
  | nil => exact ⟨fun _ => List.Pairwise.nil, fun _ => rfl⟩
  | cons x t ih =>
    cases t with
    | nil => exact ⟨fun _ => by unfold T.Up; simp, fun _ => rfl⟩
    | cons y t =>
      unfold rise T.Up
      rw [Bool.and_eq_true, decide_eq_true_iff, ih]
      constructor
      · rintro ⟨h1, h2⟩
        refine List.pairwise_cons.2 ⟨fun z hz => ?_, h2⟩
        rcases List.mem_cons.1 hz with rfl | hz
        · exact h1
        · exact T.lt_tr h1 ((List.pairwise_cons.1 h2).1 z hz)
      · intro h
        obtain ⟨h1, h2⟩ := List.pairwise_cons.1 h
        exact ⟨h1 y (by simp), h2⟩
/-- so far each is above the one before -/
def Rise (b : List (List UInt8)) (k : Nat) : Prop := ∀ i, i + 1 < k → b.getD i [] < b.getD (i + 1) []
theorem Rise.all {b : List (List UInt8)} (h : Rise b b.length) : rise b = true := by
  rw [rise_up]
  refine List.pairwise_iff_getElem.2 ?_
  intro i j hi hj hij
  have step : ∀ k (hk : i + k + 1 < b.length), b[i] < b[i + k + 1] := by
    intro k
    induction k with
    | zero =>
      intro hk
      have := h i (by omega)
      simpa [List.getD, List.getElem?_eq_getElem hi, List.getElem?_eq_getElem (show i + 1 < b.length by omega)] using this
    | succ k ih =>
      intro hk
      have h1 := ih (by omega)
      have := h (i + k + 1) (by omega)
      have h2 : b[i + k + 1] < b[i + k + 1 + 1] := by
        simpa [List.getD, List.getElem?_eq_getElem (show i + k + 1 < b.length by omega), List.getElem?_eq_getElem (show i + k + 1 + 1 < b.length by omega)] using this
      exact T.lt_tr h1 h2
  have := step (j - i - 1) (by omega)
  have e : i + (j - i - 1) + 1 = j := by omega
  simpa [e] using this
theorem rise_bad {b : List (List UInt8)} {i : Nat} (hi : i + 1 < b.length) (h : ¬ b.getD i [] < b.getD (i + 1) []) : rise b = false := by
  rw [← Bool.not_eq_true]
  intro hr
  have := T.up_get ((rise_up b).1 hr) (i := i) (j := i + 1) (by omega) hi (by omega)
  apply h
  simpa [List.getD, List.getElem?_eq_getElem hi, List.getElem?_eq_getElem (show i < b.length by omega)] using this
theorem Rise.succ {b : List (List UInt8)} {k : Nat} (h : Rise b k) (hk : 1 ≤ k) (hl : b.getD (k - 1) [] < b.getD k []) : Rise b (k + 1) := by
  intro i hi
  by_cases e : i + 1 = k
  · subst e; simpa using hl
  · exact h i (by omega)

/-- is this a book? -/
def bookR (b : List (List UInt8)) : Nat := if fitR b ≠ 0 then fitR b else if rise b then 0 else 4

set_option maxHeartbeats 1000000 in
set_option maxRecDepth 100000 in
theorem dcheck_any (a : Option Addr) (c : Nat) (l : List (List UInt8)) (w : World) (hu : Txts w w.heap.size a l) :
    Calls Try.prog 15 #[.slice a l.length c] w fun e w' => e = .returned (.int .i64 (bookR l : Nat)) ∧ Below w.heap.size w w' := by
  have HF := Lib.hid (fit_any a c l w hu)
  have HU := Lib.hid hu
  have h64 : fitR l = 0 → l.length ≤ 64 := fun h => by
    unfold fitR at h
    rcases Classical.em (64 < l.length ∨ l.findIdx long < l.length) with hh | hh
    · rw [if_pos hh] at h; exact absurd h (by decide)
    · rcases Nat.lt_or_ge 64 l.length with k | k
      · exact absurd (Or.inl k) hh
      · exact k
  by_cases hf : fitR l ≠ 0
  · have HR := Lib.hid (show bookR l = fitR l by unfold bookR; rw [if_pos hf])
    generalize fitR l = er at *
    have g1 : ((er : Int) != 0) = true := by rw [bne_iff_ne]; omega
    clear h64 hu
    go_enter Try.func15, Try.ntmps15
    go_wp2_with fail
    refine (HF.out).mono ?_
    rintro e w1 ⟨rfl, rfl⟩
    go_wp2_with fail
    go_ret
    exact ⟨by rw [HR.out]; rfl, Below.refl _ _⟩
  have hf0 : fitR l = 0 := by omega
  have hl := h64 hf0
  have HRB := Lib.hid (show bookR l = if rise l then 0 else 4 by unfold bookR; rw [if_neg hf])
  rw [hf0] at HF
  clear h64 hf hf0 hu
  go_enter Try.func15, Try.ntmps15
  go_wp2_with fail
  refine (HF.out).mono ?_
  rintro e w1 ⟨rfl, rfl⟩
  go_wp2_with fail
  go_loopw [4] (fun i wr => ∃ k d : Nat, 1 ≤ k ∧ (k ≤ l.length ∨ k = 1) ∧ i = .int .i64 k ∧ Hid (Rise l k) ∧ wr = w.drewN d) (fun i _ => l.length + 1 - (intOf i).toNat)
  case atStart => exact ⟨1, 0, by omega, Or.inr rfl, rfl, Lib.hid (fun i hi => absurd hi (by omega)), rfl⟩
  case round =>
    obtain ⟨k, d, hk1, hk, rfl, HRI, rfl⟩ := hrel
    by_cases hlt : k < l.length
    · obtain ⟨b, off, rfl, hb, hcc⟩ := HU.out (fun e => by rw [e] at hlt; simp at hlt)
      have ck := hcc k hlt
      have cp := hcc (k - 1) (by omega)
      have HSU := Lib.hid (fun h => HRI.out.succ hk1 h)
      have HBD := Lib.hid (fun h => rise_bad (b := l) (i := k - 1) (by omega) h)
      rw [show k - 1 + 1 = k by omega] at HBD
      have hlo := less_or (l.getD k []) (l.getD (k - 1) [])
      generalize l.getD k [] = x at *
      generalize l.getD (k - 1) [] = y at *
      generalize str x = X at *
      generalize str y = Y at *
      have hi1 : IntKind.i64.wrap ((k : Int) - 1) = (k : Int) - 1 := by rw [IntKind.wrap_i64]; omega
      have hi2 : (0 : Int) ≤ (k : Int) - 1 := by omega
      have hi3 : ((k : Int) - 1).toNat = k - 1 := by omega
      have hi4 : (k : Int) - 1 < (l.length : Int) := by omega
      have hi5 : (k : Int) < (l.length : Int) := by omega
      have hi6 : (1 : Int) ≤ (k : Int) := by omega
      clear hcc
      by_cases hxy : y < x
      · rw [show (!decide (y < x)) = false by simp [hxy]] at hlo
        have HN := Lib.hid (HSU.out hxy)
        clear hxy
        go_wp2_with fail
        go_quiet (fail)
        go_wp2_with fail
        exact ⟨⟨k + 1, d + nq, by omega, Or.inl (by omega), by go_num, HN, rfl⟩, by simp [intOf]; omega⟩
      · rw [show (!decide (y < x)) = true by simp [hxy]] at hlo
        have HB4 := Lib.hid (show bookR l = 4 by rw [HRB.out, HBD.out hxy, if_neg (by simp)])
        clear hxy
        go_wp2_with fail
        go_quiet (fail)
        go_wp2_with fail
        go_ret
        exact ⟨by rw [HB4.out]; rfl, below_drewN (below_drewN (Below.refl _ _) _) _⟩
    · have HB0 := Lib.hid (show bookR l = 0 by
        rw [HRB.out, if_pos]
        refine Rise.all ?_
        rcases hk with h | h
        · have e : k = l.length := by omega
          rw [← e]; exact HRI.out
        · intro i hi; omega)
      have hge : l.length ≤ k := by omega
      clear hk
      go_wp2_with fail
      go_ret
      exact ⟨by rw [HB0.out]; rfl, below_drewN (Below.refl _ _) _⟩
theorem bookR_len {b : List (List UInt8)} (h : bookR b = 0) : b.length ≤ 64 ∧ T.Up b := by
  unfold bookR at h
  by_cases hf : fitR b ≠ 0
  · rw [if_pos hf] at h; exact absurd h hf
  rw [if_neg hf] at h
  constructor
  · unfold fitR at hf
    rcases Classical.em (64 < b.length ∨ b.findIdx long < b.length) with hh | hh
    · rw [if_pos hh] at hf; exact absurd (by decide) hf
    · rcases Nat.lt_or_ge 64 b.length with k | k
      · exact absurd (Or.inl k) hh
      · exact k
  · rw [← rise_up]
    cases hr : rise b with
    | true => rfl
    | false => rw [hr] at h; simp at h
end Go.Proofs.Ytdabpnpiojmbbaa
