/- Shred and Assemble, as the laws want them. -/
import Derived.Test.YtmiegikefdfaiaaShLev
import Derived.Test.YtmiegikefdfaiaaShSame
namespace Go.Proofs.Ytmiegikefdfaiaa
open Go.RowKit
open Sh (Lv)
set_option linter.unusedVariables false

theorem shR_form {l : List Sh.Fd} {rs : List (List Nat)} {cols : List (List Lv)} (h : Sh.shR l rs = .ok cols) : Sh.check l = 0 := by
  unfold Sh.shR at h
  split at h
  · cases h
  · rename_i h0; exact Classical.not_not.1 h0
theorem form_small {l : List Sh.Fd} (h : Sh.check l = 0) : Sh.size (Sh.formK l) ≤ 12 ∧ lv1 (Sh.formK l) ≤ 12 := by
  obtain ⟨k, hk, hf, ho, h12⟩ := Sh.check_form h
  rw [Sh.formK_is hf]
  have e1 : l.length = Sh.size (.cons 0 k .nil) := by rw [← hf, Sh.flat_length]
  have e2 : Sh.size (.cons 0 k .nil) = 1 + Sh.size k + 0 := rfl
  have e3 := Sh.leaves_le (.cons 0 k .nil)
  rw [leaves_cons] at e3
  omega
theorem shR_lvOk {l : List Sh.Fd} {rs : List (List Nat)} {cols : List (List Lv)} (hr : ∀ r ∈ rs, ∀ n ∈ r, n < 18446744073709551616) (h : Sh.shR l rs = .ok cols) : ∀ i, ∀ x ∈ cols.getD i [], lvOk x := by
  intro i x hx
  have h1 := form_small (shR_form h)
  have h2 := Sh.mostK_le (Sh.formK l) i
  obtain ⟨a1, a2, a3, a4, -, -, a7⟩ := Sh.levels l rs cols hr h i x hx
  exact ⟨⟨by omega, by omega⟩, ⟨by omega, by omega⟩, a7⟩
theorem shR_err {l : List Sh.Fd} {rs : List (List Nat)} {n : Nat} (h : Sh.shR l rs = .error n) : n ≠ 0 := by
  unfold Sh.shR at h
  split at h
  · rename_i h0; cases h; exact h0
  · split at h
    · cases h; decide
    · have := recsS_err h; omega
theorem asm_err {l : List Sh.Fd} {cols : List (List Lv)} {n : Nat} (h : Sh.asmbl l cols = .error n) : n ≠ 0 := by
  unfold Sh.asmbl at h
  split at h
  · rename_i h0; cases h; exact h0
  · split at h
    · cases h; decide
    · cases hx : Sh.asR (Sh.formK l) cols with
      | none => rw [hx] at h; cases h; decide
      | some o => rw [hx] at h; cases h
theorem NRows.lt {w : World} {B : Nat} {a : Option Addr} {l : List (List Nat)} (h : NRows w B a l) : ∀ r ∈ l, ∀ n ∈ r, n < 18446744073709551616 := by
  intro r hr
  obtain ⟨i, hi, rfl⟩ := List.getElem_of_mem hr
  obtain ⟨b, off, ra, rcap, -, -, -, -, -, -, h5⟩ := h.at hi
  rwa [show l.getD i [] = l[i] by simp [List.getD, List.getElem?_eq_getElem hi]] at h5
theorem LRows.lt {w : World} {B : Nat} {a : Option Addr} {l : List (List Lv)} (h : LRows w B a l) : ∀ i, (l.getD i []).length ≤ maxLen ∧ ∀ x ∈ l.getD i [], lvOk x := by
  intro i
  by_cases hi : i < l.length
  · obtain ⟨b, off, ra, rcap, -, -, -, -, h3, h4, h5⟩ := h.at hi
    exact ⟨by omega, h5⟩
  · rw [show l.getD i [] = [] by simp [List.getD, List.getElem?_eq_none (show l.length ≤ i by omega)]]
    exact ⟨Nat.zero_le _, fun x hx => by cases hx⟩
/-- columns that were made -/
def ShrOk (w : World) (R : Except Nat (List (List Lv))) (e : Ending) (w' : World) : Prop :=
  Below w.heap.size w w' ∧ match R with
  | .error n => n ≠ 0 ∧ e = .returned (.tuple #[.slice none 0 0, .int .i64 (n : Int)])
  | .ok cols => ∃ C, e = .returned (.tuple #[.slice (some ⟨C, 0, none⟩) cols.length cols.length, .int .i64 0]) ∧ LRows w' w'.heap.size (some ⟨C, 0, none⟩) cols ∧ cols.length ≤ 12
theorem shred_ok (a : Option Addr) (cap : Nat) (l : List Sh.Fd) (ra : Option Addr) (rcap : Nat) (rs : List (List Nat)) (w : World) (hcap : l.length ≤ cap) (hcm : cap ≤ maxLen) (hu : Fds w w.heap.size a l) (hrc : rs.length ≤ rcap) (hrm : rcap ≤ maxLen) (hr : NRows w w.heap.size ra rs) :
    Calls Try.prog 12 #[.slice a l.length cap, .slice ra rs.length rcap] w (ShrOk w (Sh.shR l rs)) := by
  refine (shred_any a cap l ra rcap rs w hcap hcm hu hrc hrm hr).mono ?_
  rintro e w' ⟨hb, hm⟩
  refine ⟨hb, ?_⟩
  cases hR : Sh.shR l rs with
  | error n => rw [hR] at hm; exact ⟨shR_err hR, hm⟩
  | ok cols =>
    rw [hR] at hm
    obtain ⟨B, S, C, N, aa, cp, vs, -, rfl, hs⟩ := hm
    have hcl := hs.cl
    have hnb := hs.nb
    subst hcl
    exact ⟨C, rfl, shd_rows hs (shR_lvOk hr.lt hR), hnb⟩
/-- records that were made -/
def AsmOk (w : World) (R : Except Nat (List (List Nat))) (e : Ending) (w' : World) : Prop :=
  Below w.heap.size w w' ∧ match R with
  | .error n => n ≠ 0 ∧ e = .returned (.tuple #[.slice none 0 0, .int .i64 (n : Int)])
  | .ok outs => ∃ a cap, e = .returned (.tuple #[.slice a outs.length cap, .int .i64 0]) ∧ NRows w' w'.heap.size a outs ∧ outs.length ≤ cap ∧ cap ≤ maxLen
theorem asm_ok (a : Option Addr) (cap : Nat) (l : List Sh.Fd) (ca : Option Addr) (ccap : Nat) (cols : List (List Lv)) (w : World) (hcap : l.length ≤ cap) (hcm : cap ≤ maxLen) (hu : Fds w w.heap.size a l) (hcl : cols.length ≤ maxLen) (hr : LRows w w.heap.size ca cols) :
    Calls Try.prog 18 #[.slice a l.length cap, .slice ca cols.length ccap] w (AsmOk w (Sh.asmbl l cols)) := by
  refine (assemble_any a cap l ca ccap cols w hcap hcm hu hcl hr).mono ?_
  rintro e w' ⟨hb, hm⟩
  refine ⟨hb, ?_⟩
  cases hR : Sh.asmbl l cols with
  | error n => rw [hR] at hm; exact ⟨asm_err hR, hm⟩
  | ok outs =>
    rw [hR] at hm
    obtain ⟨ov, rvs, S, C, rfl, ho⟩ := hm
    obtain ⟨aa, cp, rfl, h1, h2, h3⟩ := outs_rows ho (Sh.fits l cols outs (fun i => by
      have := hr.lt i
      unfold maxLen at this
      exact ⟨by omega, fun x hx => (this.2 x hx).2.2⟩) hR)
    exact ⟨aa, cp, rfl, h1, h2, h3⟩
end Go.Proofs.Ytmiegikefdfaiaa
