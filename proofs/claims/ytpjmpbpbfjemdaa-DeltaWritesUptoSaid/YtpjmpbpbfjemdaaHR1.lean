/- The walk of hypostyleref.sameFrom. -/
import Derived.Test.YtpjmpbpbfjemdaaHW1
import Derived.Test.YtpjmpbpbfjemdaaBitsX6
namespace Go.Proofs.Ytpjmpbpbfjemdaa
open Go.RowKit
set_option linter.unusedVariables false

set_option maxHeartbeats 1000000 in
theorem sameFrom_any (b off c : Nat) (l : List Nat) (p : Nat) (w : World) (hl : l.length ≤ 1048576) (hp : p < l.length)
    (hc : ∀ i, i < l.length → w.cell? ⟨b, off + i, none⟩ = some (.int .u64 ((l.getD i 0 : Nat) : Int))) :
    Calls Try.prog 68 #[.slice (some ⟨b, off, none⟩) l.length c, .int .i64 p] w fun e w' => e = .returned (.int .i64 (H.row (l.drop p))) ∧ Below w.heap.size w w' := by
  have hne : l.drop p ≠ [] := fun e => by have := congrArg List.length e; rw [List.length_drop] at this; simp at this; omega
  have hld : (l.drop p).length = l.length - p := List.length_drop
  have hle := H.row_le (l.drop p)
  rw [hld] at hle
  have hhd : (l.drop p).headD 0 = l.getD p 0 := by
    rw [List.drop_eq_getElem_cons hp]; simp [List.getD, List.getElem?_eq_getElem hp]
  have hget : ∀ k, (l.drop p).getD k 0 = l.getD (p + k) 0 := fun k => by simp [List.getD, List.getElem?_drop]
  have HS := Lib.hid (fun k hk hl => H.rowF_step ((l.drop p).headD 0) (l.drop p) k hk hl)
  have ch := hc p hp
  rw [← hhd] at ch
  have hrow : H.row (l.drop p) = H.rowF ((l.drop p).headD 0) (l.drop p) := rfl
  rw [← hrow] at HS
  have HC := Lib.hid hc
  have HG := Lib.hid hget
  have HLD := Lib.hid hld
  generalize H.row (l.drop p) = r at *
  generalize (l.drop p).headD 0 = x at *
  clear hc hhd hrow hget hld hne
  have hpI : (p : Int) < (l.length : Int) := by omega
  go_enter Try.func68, Try.ntmps68
  go_wp2_with fail
  go_loopw [5] (fun i wr => ∃ k : Nat, k ≤ r ∧ i = .int .i64 k ∧ (∃ m, wr = w.drewN m)) (fun i _ => l.length - (intOf i).toNat)
  case atStart => exact ⟨0, by omega, rfl, 0, rfl⟩
  case round =>
    obtain ⟨k, hk, rfl, m, rfl⟩ := hrel
    have hsum : ((p : Int) + (k : Int)) = ((p + k : Nat) : Int) := by omega
    have hwr : IntKind.i64.wrap ((p + k : Nat) : Int) = ((p + k : Nat) : Int) := by rw [IntKind.wrap_i64]; omega
    by_cases hlt : p + k < l.length
    · have ck := HC.out (p + k) hlt
      have HK := Lib.hid (HS.out k hk (by rw [HLD.out]; omega))
      have hg := HG.out k
      rw [hg] at HK
      have hI : ((p + k : Nat) : Int) < (l.length : Int) := by omega
      have hkn := (HK.out).2
      have hky := (HK.out).1
      generalize l.getD (p + k) 0 = y at *
      obtain ⟨q, hq⟩ : ∃ q, q = p + k := ⟨_, rfl⟩
      rw [← hq] at hsum hwr ck hI hlt
      have hq0 : (0 : Int) ≤ (q : Int) := by omega
      clear hg HK hq
      by_cases hyx : y = x
      · have hk1 := hky hyx
        subst hyx
        clear hky hkn
        go_wp2_with fail
        go_quiet (fail)
        go_wp2_with fail
        exact ⟨⟨k + 1, hk1, by go_num, ⟨_, rfl⟩⟩, by simp [intOf]; omega⟩
      · have g1 : ((y : Int) == (x : Int)) = false := by rw [beq_eq_false_iff_ne]; omega
        obtain rfl : r = k := hkn hyx
        clear hky hkn
        go_wp2_with fail
        go_quiet (fail)
        go_wp2_with fail
        go_ret
        exact ⟨rfl, below_drewN (below_drewN (Below.refl _ _) _) _⟩
    · obtain rfl : k = r := by omega
      obtain ⟨q, hq⟩ : ∃ q, q = p + k := ⟨_, rfl⟩
      rw [← hq] at hsum hwr hlt
      have g1 : decide ((q : Int) < (l.length : Int)) = false := by simp; omega
      clear hq
      go_wp2_with fail
      go_quiet (fail)
      go_wp2_with fail
      go_ret
      exact ⟨rfl, below_drewN (below_drewN (Below.refl _ _) _) _⟩
end Go.Proofs.Ytpjmpbpbfjemdaa
