/- The walks of bloom.stirred, for numbers of each kind. -/
import Derived.Test.YtbhggbohkddlaaaBlPlain
import Derived.Test.YtbhggbohkddlaaaCBase
import Derived.Laws.BitsAllLaws
namespace Go.Proofs.Ytbhggbohkddlaaa
open Go.RowKit
set_option linter.unusedVariables false

theorem xor_low64 (h b : Nat) (hh : h < 18446744073709551616) (hb : b < 256) : bits .xor .u64 (h : Int) (b : Int) = ((h ^^^ b : Nat) : Int) := u64_xor_nat h b hh (by omega)
theorem stp_cast (h b : Nat) : IntKind.u64.wrap (((h ^^^ b : Nat) : Int) * 1099511628211) = ((Bl.stp h b : Nat) : Int) := by
  unfold Bl.stp
  generalize (h ^^^ b) = y
  rw [IntKind.wrap_u64]
  omega
theorem stir_take {α : Type} (f : α → Nat) (xs : List α) (d : α) (k h : Nat) (hk : k < xs.length) :
    Bl.stir h ((xs.take (k + 1)).map f) = Bl.stp (Bl.stir h ((xs.take k).map f)) (f (xs.getD k d)) := by
  rw [List.take_succ_eq_append_getElem hk, List.map_append]
  simp only [List.map_cons, List.map_nil, List.getD, List.getElem?_eq_getElem hk, Option.getD_some]
  exact Bl.stir_snoc _ _ _

set_option maxHeartbeats 1000000 in
theorem stirI_any (b off c : Nat) (xs : List Int) (h : Nat) (w : World) (hh : h < 18446744073709551616) (hl : xs.length ≤ maxLen)
    (hc : ∀ i, i < xs.length → w.cell? ⟨b, off + i, none⟩ = some (.int .i64 (xs.getD i 0))) :
    Calls Try.prog 19 #[.int .u64 h, .slice (some ⟨b, off, none⟩) xs.length c] w fun e w' => e = .returned (.int .u64 (Bl.stir h (xs.map (Bl.low)) : Nat)) ∧ w = w' := by
  unfold maxLen at hl
  have HC := Lib.hid hc
  clear hc
  go_enter Try.func19, Try.ntmps19
  go_wp2_with fail
  go_loop [0, 6, 9] (fun v _ i => ∃ k : Nat, k ≤ xs.length ∧ i = .int .i64 k ∧ v = .int .u64 (Bl.stir h ((xs.take k).map (Bl.low)) : Nat)) (fun _ _ i => xs.length - (intOf i).toNat)
  case atStart => exact ⟨0, by omega, rfl, rfl⟩
  case round =>
    obtain ⟨k, hk, rfl, rfl⟩ := hrel
    by_cases hlt : k < xs.length
    · have hcell := HC.out k hlt
      have HS := Lib.hid (stir_take (Bl.low) xs 0 k h hlt)
      have hq := Bl.stir_lt ((xs.take k).map (Bl.low)) h hh
      generalize Bl.stir h ((xs.take k).map (Bl.low)) = q at *
      generalize xs.getD k 0 = x at *
      have hlow' := (Bl.low_cast x).symm
      have hll := Bl.low_lt x
      generalize Bl.low x = lo at *
      have hx := xor_low64 q lo hq hll
      have hst := stp_cast q lo
      go_wp2_with fail
      exact ⟨⟨k + 1, by omega, by go_num, by rw [HS.out]⟩, by simp [intOf]; omega⟩
    · obtain rfl : k = xs.length := by omega
      go_wp2_with fail
      go_ret
      exact ⟨rfl, rfl⟩

set_option maxHeartbeats 1000000 in
theorem stirU_any (b off c : Nat) (xs : List Nat) (h : Nat) (w : World) (hh : h < 18446744073709551616) (hl : xs.length ≤ maxLen)
    (hc : ∀ i, i < xs.length → w.cell? ⟨b, off + i, none⟩ = some (.int .u64 (( (xs.getD i 0): Nat) : Int))) :
    Calls Try.prog 20 #[.int .u64 h, .slice (some ⟨b, off, none⟩) xs.length c] w fun e w' => e = .returned (.int .u64 (Bl.stir h (xs.map (fun x => x % 256)) : Nat)) ∧ w = w' := by
  unfold maxLen at hl
  have HC := Lib.hid hc
  clear hc
  go_enter Try.func20, Try.ntmps20
  go_wp2_with fail
  go_loop [0, 6, 9] (fun v _ i => ∃ k : Nat, k ≤ xs.length ∧ i = .int .i64 k ∧ v = .int .u64 (Bl.stir h ((xs.take k).map (fun x => x % 256)) : Nat)) (fun _ _ i => xs.length - (intOf i).toNat)
  case atStart => exact ⟨0, by omega, rfl, rfl⟩
  case round =>
    obtain ⟨k, hk, rfl, rfl⟩ := hrel
    by_cases hlt : k < xs.length
    · have hcell := HC.out k hlt
      have HS := Lib.hid (stir_take (fun x => x % 256) xs 0 k h hlt)
      have hq := Bl.stir_lt ((xs.take k).map (fun x => x % 256)) h hh
      generalize Bl.stir h ((xs.take k).map (fun x => x % 256)) = q at *
      generalize xs.getD k 0 = x at *
      have hlow' : (x : Int) % 256 = ((x % 256 : Nat) : Int) := by omega
      have hll : x % 256 < 256 := Nat.mod_lt _ (by omega)
      generalize x % 256 = lo at *
      have hx := xor_low64 q lo hq hll
      have hst := stp_cast q lo
      go_wp2_with fail
      exact ⟨⟨k + 1, by omega, by go_num, by rw [HS.out]⟩, by simp [intOf]; omega⟩
    · obtain rfl : k = xs.length := by omega
      go_wp2_with fail
      go_ret
      exact ⟨rfl, rfl⟩

set_option maxHeartbeats 1000000 in
theorem stirB_any (b off c : Nat) (xs : List Nat) (h : Nat) (w : World) (hh : h < 18446744073709551616) (hl : xs.length ≤ maxLen) (hb : ∀ i, i < xs.length → xs.getD i 0 < 256)
    (hc : ∀ i, i < xs.length → w.cell? ⟨b, off + i, none⟩ = some (.int .u8 (( (xs.getD i 0): Nat) : Int))) :
    Calls Try.prog 21 #[.int .u64 h, .slice (some ⟨b, off, none⟩) xs.length c] w fun e w' => e = .returned (.int .u64 (Bl.stir h (xs) : Nat)) ∧ w = w' := by
  unfold maxLen at hl
  have HC := Lib.hid hc
  have HB := Lib.hid hb
  clear hc hb
  go_enter Try.func21, Try.ntmps21
  go_wp2_with fail
  go_loop [0, 6, 9] (fun v _ i => ∃ k : Nat, k ≤ xs.length ∧ i = .int .i64 k ∧ v = .int .u64 (Bl.stir h (xs.take k) : Nat)) (fun _ _ i => xs.length - (intOf i).toNat)
  case atStart => exact ⟨0, by omega, rfl, rfl⟩
  case round =>
    obtain ⟨k, hk, rfl, rfl⟩ := hrel
    by_cases hlt : k < xs.length
    · have hcell := HC.out k hlt
      have HS := Lib.hid (show Bl.stir h (xs.take (k + 1)) = Bl.stp (Bl.stir h (xs.take k)) (xs.getD k 0) by have := stir_take id xs 0 k h hlt; rw [List.map_id, List.map_id] at this; exact this)
      have hq := Bl.stir_lt (xs.take k) h hh
      generalize Bl.stir h (xs.take k) = q at *
      have hll := HB.out k hlt
      generalize xs.getD k 0 = lo at *
      have hx := xor_low64 q lo hq hll
      have hst := stp_cast q lo
      go_wp2_with fail
      exact ⟨⟨k + 1, by omega, by go_num, by rw [HS.out]⟩, by simp [intOf]; omega⟩
    · obtain rfl : k = xs.length := by omega
      go_wp2_with fail
      go_ret
      exact ⟨rfl, rfl⟩

end Go.Proofs.Ytbhggbohkddlaaa
