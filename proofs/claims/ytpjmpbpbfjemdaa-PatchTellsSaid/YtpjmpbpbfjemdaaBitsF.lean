/- Facts of packing, and a list of numbers that stands in the text. -/
import Derived.Test.YtpjmpbpbfjemdaaBitsW4
namespace Go.Proofs.Ytpjmpbpbfjemdaa
open Go.RowKit
set_option linter.unusedVariables false

theorem nums_lit (w : World) (l : List Nat) : Nums (w.alloc (.cells (nv l).toArray 23)) (w.alloc (.cells (nv l).toArray 23)).heap.size (some ⟨w.heap.size, 0, none⟩) l := by
  intro _
  refine ⟨w.heap.size, 0, rfl, by simp, fun i hi => ?_⟩
  rw [Nat.zero_add, World.cell?_alloc_new]
  simp [nv, List.getElem?_eq_getElem hi]

theorem pack_ok (l : List Nat) (wide : Int) (h : (packR l wide).2 = 0) : ∃ n : Nat, wide = n ∧ n ≤ 64 ∧ l.length ≤ 64 ∧ (∀ x ∈ l, x < 2 ^ n) ∧ packR l wide = (B.le (B.sz (l.length * n)) (B.pk n l), 0) := by
  unfold packR at h ⊢
  by_cases h0 : wide < 0 ∨ 64 < wide
  · rw [if_pos h0] at h; simp at h
  rw [if_neg h0] at h ⊢
  by_cases h1 : 64 < l.length
  · rw [if_pos h1] at h; simp at h
  rw [if_neg h1] at h ⊢
  by_cases h2 : wide.toNat < B.wd l
  · rw [if_pos h2] at h; simp at h
  rw [if_neg h2]
  exact ⟨wide.toNat, by omega, by omega, by omega, (B.wd_le l _).1 (by omega), rfl⟩
theorem pack_bad (l : List Nat) (wide : Int) (h : (packR l wide).2 ≠ 0) : (packR l wide).1 = [] := by
  unfold packR at h ⊢
  by_cases h0 : wide < 0 ∨ 64 < wide
  · rw [if_pos h0]
  rw [if_neg h0] at h ⊢
  by_cases h1 : 64 < l.length
  · rw [if_pos h1]
  rw [if_neg h1] at h ⊢
  by_cases h2 : wide.toNat < B.wd l
  · rw [if_pos h2]
  rw [if_neg h2] at h; simp at h

theorem sz_pow (M : Nat) : 2 ^ M ≤ 256 ^ B.sz M := by
  rw [B.two8]; apply Nat.pow_le_pow_right (by omega); unfold B.sz; omega

theorem leN_pack (n : Nat) (l : List Nat) (h : ∀ x ∈ l, x < 2 ^ n) : B.leN (B.le (B.sz (l.length * n)) (B.pk n l)) = B.pk n l := by
  rw [B.leN_le]
  apply Nat.mod_eq_of_lt
  have := B.pk_lt n l h
  rw [Nat.mul_comm] at this
  exact Nat.lt_of_lt_of_le this (sz_pow _)

theorem unp_pack (n : Nat) (l : List Nat) (hn : n ≤ 64) (hl : l.length ≤ 64) (h : ∀ x ∈ l, x < 2 ^ n) :
    unpR (B.le (B.sz (l.length * n)) (B.pk n l)) l.length n = (l, 0) ∧ (∀ k : Nat, k < l.length → getR (B.le (B.sz (l.length * n)) (B.pk n l)) l.length n k = (l.getD k 0, 0)) := by
  have hlt := B.pk_lt n l h
  rw [Nat.mul_comm] at hlt
  have hck : chkR (B.le (B.sz (l.length * n)) (B.pk n l)) l.length n = 0 := by
    unfold chkR
    rw [if_neg (by omega), if_neg (by omega)]
    unfold chkF
    rw [if_neg]
    rw [Int.toNat_natCast, Int.toNat_natCast, B.le_length, leN_pack n l h, Nat.div_eq_of_lt hlt]
    simp
  constructor
  · rw [unpR, if_pos hck, leN_pack n l h, Int.toNat_natCast, Int.toNat_natCast, B.dg_pk n l h]
  · intro k hk
    rw [getR, if_pos hck, if_neg (by omega), leN_pack n l h, Int.toNat_natCast, Int.toNat_natCast, Nat.mul_comm k n]
    have := B.dg_get n l.length (B.pk n l) k hk
    rw [B.dg_pk n l h] at this
    rw [← this]

theorem pack_unp (l : List UInt8) (many wide : Int) (h : chkR l many wide = 0) :
    packR (B.dg wide.toNat many.toNat (B.leN l)) wide = (l, 0) ∧ ((B.dg wide.toNat many.toNat (B.leN l)).length : Int) = many := by
  obtain ⟨m, n, rfl, rfl, hm, hn, hl, hq⟩ := chk_zero _ _ _ h
  simp only [Int.toNat_natCast]
  have hdl := B.dg_length n m (B.leN l)
  refine ⟨?_, by rw [hdl]⟩
  unfold packR
  rw [if_neg (by omega), if_neg (by omega)]
  have hwd : B.wd (B.dg n m (B.leN l)) ≤ n := (B.wd_le _ _).2 (B.dg_lt n m (B.leN l))
  simp only [Int.toNat_natCast]
  rw [if_neg (by omega), hdl, B.pk_dg, ← hl]
  have hlt : B.leN l < 2 ^ (m * n) := by
    rcases Nat.div_eq_zero_iff.1 hq with h0 | h0
    · have := B.pos2 (m * n); omega
    · exact h0
  rw [Nat.mul_comm n m, Nat.mod_eq_of_lt hlt, B.le_leN]
end Go.Proofs.Ytpjmpbpbfjemdaa
