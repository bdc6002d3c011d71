/- How long pages' bodies are. -/
import Derived.Test.YtcachhnhncodoaaGreatPgPlain2
import Derived.Test.YtcachhnhncodoaaGreatP10
namespace Go.Proofs.YtcachhnhncodoaaGreat
open Go.RowKit
set_option linter.unusedVariables false

theorem pbestNW_le (l : List Nat) (way : Nat) (h : 1 ≤ way ∧ way ≤ 4) : (bestNW l).length ≤ (nbW way l).length := by
  unfold bestNW
  have h1 := bstep_le (nbW 1 l) (bstep (nbW 2 l) (bstep (nbW 3 l) (nbW 4 l)))
  have h2 := bstep_le (nbW 2 l) (bstep (nbW 3 l) (nbW 4 l))
  have h3 := bstep_le (nbW 3 l) (nbW 4 l)
  have h4 : way = 1 ∨ way = 2 ∨ way = 3 ∨ way = 4 := by omega
  rcases h4 with rfl | rfl | rfl | rfl <;> omega
theorem pbestTW_le (l : List (List UInt8)) (way : Nat) (h : 5 ≤ way ∧ way ≤ 7) : (bestTW l).length ≤ (txB way l).length := by
  unfold bestTW
  have h1 := bstep_le (txB 5 l) (bstep (txB 6 l) (txB 7 l))
  have h2 := bstep_le (txB 6 l) (txB 7 l)
  have h4 : way = 5 ∨ way = 6 ∨ way = 7 := by omega
  rcases h4 with rfl | rfl | rfl <;> omega

namespace Pg
theorem bestN_len (l : List Nat) (hl : l.length ≤ 64) (hx : ∀ x ∈ l, x < 18446744073709551616) : (bestNW l).length ≤ 600 := by
  refine Nat.le_trans (pbestNW_le l 1 (by omega)) ?_
  have hw := B.wd_64 l hx
  have hm : l.length * B.wd l ≤ 64 * 64 := Nat.mul_le_mul hl hw
  show (([1] : List UInt8) ++ [UInt8.ofNat (B.wd l)] ++ B.le (B.sz (l.length * B.wd l)) (B.pk (B.wd l) l)).length ≤ 600
  simp only [List.length_append, B.le_length, List.length_cons, List.length_nil]
  unfold B.sz
  generalize l.length * B.wd l = q at *
  omega
theorem plain_len : ∀ l : List (List UInt8), (∀ x ∈ l, x.length ≤ 16) → (plainB l).length ≤ 25 * l.length
  | [], _ => by simp [plainB]
  | x :: l, h => by
    have ih := plain_len l (fun y hy => h y (List.mem_cons_of_mem _ hy))
    have h1 := h x List.mem_cons_self
    have h2 := V.sz_le x.length
    have e : plainB (x :: l) = V.enc x.length ++ x ++ plainB l := by simp [plainB]
    rw [e]
    simp only [List.length_append, V.enc_length, List.length_cons]
    omega
theorem bestT_len (l : List (List UInt8)) (hl : l.length ≤ 64) (h : ∀ x ∈ l, x.length ≤ 16) : (bestTW l).length ≤ 1601 := by
  refine Nat.le_trans (pbestTW_le l 5 (by omega)) ?_
  show (([5] : List UInt8) ++ plainB l).length ≤ 1601
  have := plain_len l h
  simp only [List.length_append, List.length_cons, List.length_nil]
  omega
theorem best_len {k : Int} {l : List C.Cl} (h : C.chk k l = 0) (hx : ∀ x ∈ l, cOk x) : (bestNW ((C.dense l).map (·.num))).length ≤ 600 ∧ (bestTW ((C.dense l).map (·.txt))).length ≤ 1601 := by
  obtain ⟨_, hl, hc⟩ := C.chk_ok (C.dense_ok h)
  constructor
  · refine bestN_len _ (by rw [List.length_map]; exact hl) (fun x hxm => ?_)
    simp only [List.mem_map] at hxm
    obtain ⟨y, hy, rfl⟩ := hxm
    exact (hx y (List.mem_filter.1 hy).1).2.2.1
  · refine bestT_len _ (by rw [List.length_map]; exact hl) (fun x hxm => ?_)
    simp only [List.mem_map] at hxm
    obtain ⟨y, hy, rfl⟩ := hxm
    exact (C.cell_ok (hc y hy)).2.2.1
theorem marks_le (l : List Bool) (h : l.length ≤ 64) : (bytesR l).1 = B.le (B.sz (l.length * 1)) (B.pk 1 (ones l)) := by
  unfold bytesR packR
  rw [if_neg (by omega), if_neg (by rw [ones_length]; omega), if_neg, ones_length]
  · rfl
  · rw [Nat.not_lt]
    show B.wd (ones l) ≤ 1
    rw [B.wd_le]
    intro x hx
    exact ones_lt l x hx
theorem body_len {k : Int} {l : List C.Cl} (h : C.chk k l = 0) (hx : ∀ x ∈ l, cOk x) : (bodyP k l).length ≤ 2000 := by
  obtain ⟨_, hl, _⟩ := C.chk_ok h
  obtain ⟨b1, b2⟩ := best_len h hx
  have h1 := V.sz_le l.length
  have h2 := V.sz_le (C.dense l).length
  have h3 : (if (C.dense l).length < l.length then (bytesR (l.map C.here)).1 else []).length ≤ 9 := by
    split
    · rw [marks_le _ (by rw [List.length_map]; exact hl), B.le_length, List.length_map]; unfold B.sz; omega
    · simp
  have h4 : (if (C.dense l).length = 0 then [] else if k = 1 then bestNW ((C.dense l).map (·.num)) else bestTW ((C.dense l).map (·.txt))).length ≤ 1601 := by
    split
    · simp
    · split
      · omega
      · exact b2
  unfold bodyP
  simp only [List.length_cons, List.length_append, V.enc_length]
  omega
end Pg
end Go.Proofs.YtcachhnhncodoaaGreat
