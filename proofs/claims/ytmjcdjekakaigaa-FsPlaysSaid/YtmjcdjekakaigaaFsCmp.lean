/- strings.Compare; the closures of fs.place, of fs.entry. -/
import Derived.Test.YtmjcdjekakaigaaFsBase
import Derived.Lib.Bytealg
namespace Go.Proofs.Ytmjcdjekakaigaa.Fs
open Go.RowKit
set_option linter.unusedVariables false

/-- which of two texts is less -/
def cmpS (x y : S) : Int := Lib.compareBytes x y
theorem compare_lt : ∀ (x y : S), decide (cmpS x y < 0) = decide (x < y)
  | [], [] => by simp [cmpS, Lib.compareBytes]
  | [], b :: y => by simp [cmpS, Lib.compareBytes]
  | a :: x, [] => by simp [cmpS, Lib.compareBytes]
  | a :: x, b :: y => by
    have ih := compare_lt x y
    unfold cmpS at ih ⊢
    rw [Lib.compareBytes, decide_eq_decide, List.cons_lt_cons_iff]
    rw [decide_eq_decide] at ih
    by_cases h1 : a < b
    · simp [h1]
    · rw [if_neg h1]
      by_cases h2 : b < a
      · have hne : a ≠ b := fun e => by rw [e] at h2; exact absurd h2 (UInt8.lt_irrefl b)
        simp [h1, h2, hne]
      · have he : a = b := UInt8.le_antisymm (UInt8.not_lt.1 h2) (UInt8.not_lt.1 h1)
        rw [if_neg h2, ih]
        simp [he]
theorem compare_eq : ∀ (x y : S), decide (cmpS x y = 0) = decide (x = y)
  | [], [] => by simp [cmpS, Lib.compareBytes]
  | [], b :: y => by simp [cmpS, Lib.compareBytes]
  | a :: x, [] => by simp [cmpS, Lib.compareBytes]
  | a :: x, b :: y => by
    have ih := compare_eq x y
    unfold cmpS at ih ⊢
    rw [Lib.compareBytes, decide_eq_decide]
    rw [decide_eq_decide] at ih
    by_cases h1 : a < b
    · have hne : a ≠ b := fun e => by rw [e] at h1; exact absurd h1 (UInt8.lt_irrefl b)
      simp [h1, hne]
    · rw [if_neg h1]
      by_cases h2 : b < a
      · have hne : a ≠ b := fun e => by rw [e] at h2; exact absurd h2 (UInt8.lt_irrefl b)
        simp [h2, hne]
      · have he : a = b := UInt8.le_antisymm (UInt8.not_lt.1 h2) (UInt8.not_lt.1 h1)
        rw [if_neg h2, ih]
        simp [he]
theorem cmpS_range : ∀ (x y : S), -1 ≤ cmpS x y ∧ cmpS x y ≤ 1
  | [], [] => by simp [cmpS, Lib.compareBytes]
  | [], b :: y => by simp [cmpS, Lib.compareBytes]
  | a :: x, [] => by simp [cmpS, Lib.compareBytes]
  | a :: x, b :: y => by
    have ih := cmpS_range x y
    unfold cmpS at ih ⊢
    rw [Lib.compareBytes]
    split
    · omega
    · split
      · omega
      · exact ih
set_option maxHeartbeats 1000000 in
set_option maxRecDepth 100000 in
theorem cmpStr_any (a b : ByteArray) (w : World) :
    Calls Try.prog 52 #[.string a, .string b] w fun e w' => e = .returned (.int .i64 (Lib.compareBytes a.data.toList b.data.toList)) ∧ w' = w := by
  go_enter Try.func52, Try.ntmps52
  go_wp2
  rw [run_callFunc_extern Try.func57 (by kernel_rfl) (by kernel_rfl) (by kernel_rfl) (e := Extern.BytealgCompare.compare) (by kernel_rfl), Lib.run_compareString]
  simp only [Result.andThen]
  rw [Oper.upon_value]
  go_wp2
  go_ret
  exact ⟨rfl, rfl⟩
set_option maxHeartbeats 1000000 in
set_option maxRecDepth 100000 in
theorem compare_any (x y : S) (w : World) : Calls Try.prog 41 #[.string (str x), .string (str y)] w fun e w' => e = .returned (.int .i64 (cmpS x y)) ∧ w' = w := by
  go_enter Try.func41, Try.ntmps41
  go_wp2_with (go_at_call 52; refine (cmpStr_any _ _ _).mono ?_; rintro e w' ⟨rfl, rfl⟩)
  go_ret
  exact ⟨rfl, rfl⟩
set_option maxHeartbeats 1000000 in
set_option maxRecDepth 100000 in
theorem place1_any (n : S) (c : En) (w : World) :
    Calls Try.prog 40 #[enV c, .string (str n)] w (IntPost (cmpS c.name n) w) := by
  have hal : Below w.heap.size w (w.alloc (.cells #[.string (str c.name), .int .i64 c.node] 47)) := (Below.refl _ _).alloc (Nat.le_refl _) _
  have HC := Lib.hid (compare_any c.name n (w.alloc (.cells #[.string (str c.name), .int .i64 c.node] 47)))
  unfold enV
  generalize cmpS c.name n = r at *
  generalize str c.name = X at *
  generalize str n = Y at *
  go_enter Try.func40, Try.ntmps40
  go_wp2_with fail
  refine (HC.out).mono ?_
  rintro e w1 ⟨rfl, rfl⟩
  go_wp2_with fail
  go_ret
  exact ⟨rfl, hal⟩
set_option maxHeartbeats 1000000 in
set_option maxRecDepth 100000 in
/-- the closure of entry: has an entry this node? Its block holds the entry that is asked for. -/
theorem entry1_any (b : Nat) (x c : En) (w : World) (hB : Bk w b 47 #[.string (str x.name), .int .i64 x.node]) :
    Calls Try.prog 48 #[enV c, .pointer (some ⟨b, 0, none⟩)] w (BoolPost (decide (c.node = x.node)) w) := by
  have hal : Below w.heap.size w (w.alloc (.cells #[.string (str c.name), .int .i64 c.node] 47)) := (Below.refl _ _).alloc (Nat.le_refl _) _
  obtain ⟨c0, c1⟩ := (hB.next hal).two
  have q : ((c.node : Int) == x.node) = decide (c.node = x.node) := by by_cases h : c.node = x.node <;> simp [h]
  unfold enV
  generalize str c.name = X at *
  generalize c.node = u at *
  generalize x.node = v at *
  generalize decide (u = v) = r at *
  clear hB
  go_enter Try.func48, Try.ntmps48
  go_wp2_with fail
  go_ret
  exact ⟨by first | rfl | rw [q], hal⟩
end Go.Proofs.Ytmjcdjekakaigaa.Fs
