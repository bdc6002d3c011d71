/- Plain mathematics of runs and blocks: block by block. -/
import Derived.Test.YtpjmpbpbfjemdaaHPlain2
namespace Go.Proofs.Ytpjmpbpbfjemdaa.H
set_option linter.unusedVariables false

theorem bytes_len (w : Nat) : ∀ l : List Nat, (bytes w l).length ≤ (18 + w) * l.length := by
  refine parts_ind (fun l => (bytes w l).length ≤ (18 + w) * l.length) ?_ ?_ ?_
  · simp [bytes_nil]
  · intro l h0 h8 ih
    have hr := row_le l
    rw [bytes_run w l h0 h8, List.length_append]
    simp only [Part.bytes, List.length_append, V.enc_length, pkd_length, List.length_cons, List.length_nil, Nat.zero_add, Nat.one_mul]
    rw [List.length_drop] at ih
    have hv := V.sz_le (2 * row l)
    have hs : B.sz w ≤ w := by unfold B.sz; omega
    have hm : (18 + w) * (l.length - row l) + (18 + w) * row l = (18 + w) * l.length := by rw [← Nat.mul_add]; congr 1; omega
    have h8w : (18 + w) * 8 ≤ (18 + w) * row l := Nat.mul_le_mul_left _ h8
    omega
  · intro l h0 h8 ih
    have hr := loose_le l
    have hp := loose_pos l (fun e => e.elim h0 h8)
    rw [bytes_blk w l h0 h8, List.length_append]
    simp only [Part.bytes, List.length_append, V.enc_length, pkd_length, pad_length, List.length_take, Nat.min_eq_left hr]
    rw [List.length_drop] at ih
    have hv := V.sz_le (2 * nb (loose l) + 1)
    have hsz : 8 * B.sz (nb (loose l) * 8 * w) = nb (loose l) * 8 * w := by
      rw [Nat.mul_assoc, Nat.mul_left_comm]; unfold B.sz; omega
    have hnb : nb (loose l) ≤ loose l := by unfold nb; omega
    have e1 : nb (loose l) * 8 * w = 8 * (nb (loose l) * w) := by rw [Nat.mul_comm (nb (loose l)) 8, Nat.mul_assoc]
    have e2 : nb (loose l) * w ≤ w * loose l := by rw [Nat.mul_comm]; exact Nat.mul_le_mul_left _ hnb
    have hm : (18 + w) * (l.length - loose l) + (18 + w) * loose l = (18 + w) * l.length := by rw [← Nat.mul_add]; congr 1; omega
    have hx : (18 + w) * loose l = 18 * loose l + w * loose l := Nat.add_mul _ _ _
    omega

def eightK (l : List Nat) (q k : Nat) : List Nat := (List.range k).map fun i => l.getD (q + i) 0
theorem eightK_length (l : List Nat) (q k : Nat) : (eightK l q k).length = k := by simp [eightK]
theorem eightK_succ (l : List Nat) (q k : Nat) : eightK l q (k + 1) = eightK l q k ++ [l.getD (q + k) 0] := by simp [eightK, List.range_succ]
theorem eightK_eq (l : List Nat) (q : Nat) : (l.drop q).take 8 ++ List.replicate (8 - (l.drop q).length) 0 = eightK l q 8 := by
  apply List.ext_getElem?
  intro i
  by_cases h8 : i < 8
  · have e : (eightK l q 8)[i]? = some (l.getD (q + i) 0) := by simp [eightK, h8]
    rw [e]
    by_cases hl : i < (l.drop q).length
    · rw [List.getElem?_append_left (by rw [List.length_take]; omega), List.getElem?_take_of_lt h8, List.getElem?_drop]
      rw [List.length_drop] at hl
      simp [List.getD, List.getElem?_eq_getElem (show q + i < l.length by omega)]
    · rw [List.getElem?_append_right (by rw [List.length_take]; omega), List.getElem?_replicate]
      rw [if_pos (by rw [List.length_take]; omega)]
      rw [List.length_drop] at hl
      simp [List.getD, List.getElem?_eq_none (show l.length ≤ q + i by omega)]
  · rw [List.getElem?_eq_none (by rw [List.length_append, List.length_take, List.length_replicate]; omega), List.getElem?_eq_none (by rw [eightK_length]; omega)]

theorem pad_append (A B : List Nat) (h : A.length = 8) : pad (A ++ B) = A ++ pad B := by
  unfold pad
  rw [List.append_assoc, List.length_append, h]
  congr 3
  unfold nb; omega
theorem pad_step (l : List Nat) (q : Nat) (h : ¬ (l.drop q = [] ∨ 8 ≤ row (l.drop q))) :
    pad ((l.drop q).take (loose (l.drop q))) = eightK l q 8 ++ pad ((l.drop (q + 8)).take (loose (l.drop (q + 8)))) ∧
    l.drop (q + loose (l.drop q)) = l.drop (q + 8 + loose (l.drop (q + 8))) := by
  have hg := loose_go (l.drop q) h
  have hdd : (l.drop q).drop 8 = l.drop (q + 8) := by rw [List.drop_drop]
  have hp : 1 ≤ (l.drop q).length := List.length_pos_iff.2 (fun e => h (Or.inl e))
  rw [hdd] at hg
  have he := eightK_eq l q
  by_cases h8 : 8 ≤ (l.drop q).length
  · rw [Nat.min_eq_left h8] at hg
    rw [show 8 - (l.drop q).length = 0 by omega, List.replicate_zero, List.append_nil] at he
    rw [hg]
    constructor
    · rw [List.take_add, hdd, pad_append _ _ (by rw [List.length_take]; omega), he]
    · rw [Nat.add_assoc]
  · have hnil : l.drop (q + 8) = [] := List.drop_eq_nil_of_le (by rw [List.length_drop] at h8; omega)
    rw [hnil, loose_stop [] (Or.inl rfl)] at hg ⊢
    rw [Nat.min_eq_right (by omega), Nat.add_zero] at hg
    rw [hg]
    constructor
    · rw [List.take_length, List.take_nil]
      have e1 : pad [] = [] := rfl
      rw [e1, List.append_nil, ← he, List.take_of_length_le (by omega)]
      unfold pad
      congr 2
      unfold nb; omega
    · rw [Nat.add_zero, hnil, List.length_drop]
      exact List.drop_eq_nil_of_le (by omega)
theorem pad_stop (l : List Nat) (h : l = [] ∨ 8 ≤ row l) : pad (l.take (loose l)) = [] ∧ loose l = 0 := by
  rw [loose_stop l h, List.take_zero]; exact ⟨rfl, rfl⟩
end Go.Proofs.Ytpjmpbpbfjemdaa.H
