/- Facts for the walk of hypostyleref.HybridOf. -/
import Derived.Test.YtpjmpbpbfjemdaaHW11
import Derived.Test.YtpjmpbpbfjemdaaHR3
import Derived.Test.YtpjmpbpbfjemdaaVaryR6
namespace Go.Proofs.Ytpjmpbpbfjemdaa
open Go.RowKit
set_option linter.unusedVariables false

theorem vof_all (s : ByteArray) (w : World) (hs : s.size ≤ maxLen) : Calls Try.prog 48 #[.string s] w (ReadPost (V.rd s.data.toList) w) := by
  by_cases h : s.size = 0
  · rw [data_empty s h]; exact vof_empty s w h
  · exact vof_any s w hs (by omega)

theorem bit_take (l : List UInt8) (Z p : Nat) (hz : Z ≤ l.length) (hp : p < 8 * Z) : B.leN l / 2 ^ p % 2 = B.leN (l.take Z) / 2 ^ p % 2 := by
  have h1 := B.leN_bit l p (by omega)
  have h2 := B.leN_bit (l.take Z) p (by rw [List.length_take]; omega)
  rw [← h1, ← h2]
  simp [List.getElem_take]
theorem leN_append (a b : List UInt8) : B.leN (a ++ b) = B.leN a + 256 ^ a.length * B.leN b := by
  induction a with
  | nil => simp [B.leN]
  | cons x a ih => simp only [List.cons_append, B.leN, ih, List.length_cons, Nat.pow_succ]; rw [Nat.mul_add, Nat.add_assoc]; congr 2; rw [← Nat.mul_assoc, Nat.mul_comm 256]
theorem bits_take (l : List UInt8) (Z f n : Nat) (hz : Z ≤ l.length) (hp : f + n ≤ 8 * Z) : B.leN l / 2 ^ f % 2 ^ n = B.leN (l.take Z) / 2 ^ f % 2 ^ n := by
  have e : B.leN l = B.leN (l.take Z) + 2 ^ (8 * Z) * B.leN (l.drop Z) := by
    have := leN_append (l.take Z) (l.drop Z)
    rw [List.take_append_drop, List.length_take, Nat.min_eq_left hz, B.two8] at this
    exact this
  rw [e, show 8 * Z = f + (n + (8 * Z - f - n)) by omega, Nat.pow_add, Nat.mul_assoc, Nat.add_mul_div_left _ _ (B.pos2 f), Nat.pow_add, Nat.mul_assoc, Nat.add_mul_mod_self_left]
theorem top_take (l : List UInt8) (Z M : Nat) (hl : l.length = Z) (hM : M ≤ 8 * Z) (h : B.leN l / 2 ^ M % 2 ^ (8 * Z - M) = 0) : B.leN l / 2 ^ M = 0 := by
  subst hl
  rw [top_bits l M hM] at h; exact h

theorem wd_ne (l : List Nat) (i : Nat) (hi : i < l.length) (h : l.getD i 0 ≠ 0) : B.wd l ≠ 0 := by
  intro e
  have := (B.wd_le l 0).1 (by omega) _ (getD_mem l i hi)
  omega
theorem wd_eq (l : List Nat) (h : ∀ i, i < l.length → l.getD i 0 = 0) : B.wd l = 0 := by
  have := (B.wd_le l 0).2 (fun x hx => by
    obtain ⟨i, hi, rfl⟩ := List.getElem_of_mem hx
    have := h i hi
    simp only [List.getD, List.getElem?_eq_getElem hi, Option.getD_some] at this
    rw [this]; simp)
  omega

theorem pre_bad (xs : List Nat) (e : Nat) (he : e ≠ 0) : H.pre xs ([], e) = ([], e) := by unfold H.pre; simp [he]

/-- what reading one part more says -/
theorem read_er (R : List Nat × Nat) (xs : List Nat) (D : List UInt8) (left wide e : Nat) (hl : 1 ≤ left) (hR : R = H.pre xs (H.read D left wide)) (h : (H.first D left wide).1 = e) (he : e ≠ 0) : R = ([], e) := by
  rw [hR, H.read_bad D left wide hl (by omega), h, pre_bad xs e he]
theorem read_go (R : List Nat × Nat) (xs : List Nat) (D : List UInt8) (left wide en : Nat) (p : H.Part) (hl : 1 ≤ left) (hR : R = H.pre xs (H.read D left wide)) (h : H.first D left wide = (0, p, en)) :
    R = H.pre (xs ++ p.nums) (H.read (D.drop en) (left - p.nums.length) wide) := by
  rw [hR, H.read_step D left wide hl (by rw [h]), h, H.pre_pre]
end Go.Proofs.Ytpjmpbpbfjemdaa
