/- hypostyleref.UnpackOf. -/
import Derived.Test.YthmlafoceacliaaBitsW7
namespace Go.Proofs.Ythmlafoceacliaa
open Go.RowKit
set_option linter.unusedVariables false

theorem unpackOf_any (s : ByteArray) (many wide : Int) (w : World) (hs : s.size ≤ maxLen) :
    Calls Try.prog 25 #[.string s, .int .i64 many, .int .i64 wide] w (AllPost (unpR s.data.toList many wide) w) := by
  unfold unpR chkR
  by_cases h0 : wide < 0 ∨ 64 < wide ∨ many < 0
  · rw [if_pos h0, if_neg (by omega)]; exact unpackOf_range s many wide w h0
  obtain ⟨n, rfl⟩ : ∃ n : Nat, wide = n := ⟨wide.toNat, by omega⟩
  rw [if_neg h0]
  by_cases h1 : 64 < many
  · rw [if_pos h1, if_neg (by omega)]; exact unpackOf_many s many n w (by omega) h1
  obtain ⟨m, rfl⟩ : ∃ m : Nat, many = m := ⟨many.toNat, by omega⟩
  rw [if_neg h1, Int.toNat_natCast, Int.toNat_natCast]
  unfold chkF
  rw [len_data]
  by_cases h2 : s.size = B.sz (m * n)
  · have h := unpackOf_in s m n w (by omega) (by omega) h2
    by_cases h3 : B.leN s.data.toList / 2 ^ (m * n) = 0
    · rw [if_pos h3] at h
      have e : (if s.size ≠ B.sz (m * n) ∨ B.leN s.data.toList / 2 ^ (m * n) ≠ 0 then 1 else 0) = 0 := if_neg (by rintro (x | x); exact x h2; exact x h3)
      rw [e, if_pos rfl]; exact h
    · rw [if_neg h3] at h
      rw [if_pos (Or.inr h3), if_neg (by omega)]; exact h
  · rw [if_pos (Or.inl h2), if_neg (by omega)]
    exact unpackOf_form s m n w (by omega) (by omega) hs h2
end Go.Proofs.Ythmlafoceacliaa
