/- Plain mathematics of differences. -/
import Derived.WalkKit
namespace Go.Proofs.Ytpjmpbpbfjemdaa.D
set_option linter.unusedVariables false

def fd (b x : Nat) : Nat × Nat := (x, (x + (18446744073709551616 - b)) % 18446744073709551616)
def fs (b x : Nat) : Nat × Nat := ((b + x) % 18446744073709551616, (b + x) % 18446744073709551616)
def zig (n : Nat) : Nat := if n < 9223372036854775808 then 2 * n else 2 * (18446744073709551616 - n) - 1
def zag (n : Nat) : Nat := if n % 2 = 0 then n / 2 else 18446744073709551616 - 1 - n / 2
def fzig (b x : Nat) : Nat × Nat := (b, zig x)
def fzag (b x : Nat) : Nat × Nat := (b, zag x)

def runF (f : Nat → Nat → Nat × Nat) (b : Nat) : List Nat → List Nat
  | [] => []
  | x :: l => (f b x).2 :: runF f (f b x).1 l
def endF (f : Nat → Nat → Nat × Nat) (b : Nat) : List Nat → Nat
  | [] => b
  | x :: l => endF f (f b x).1 l
theorem runF_length (f : Nat → Nat → Nat × Nat) (b : Nat) (l : List Nat) : (runF f b l).length = l.length := by
  induction l generalizing b with
  | nil => rfl
  | cons x l ih => simp [runF, ih]
theorem runF_snoc (f : Nat → Nat → Nat × Nat) (b : Nat) (l : List Nat) (x : Nat) : runF f b (l ++ [x]) = runF f b l ++ [(f (endF f b l) x).2] ∧ endF f b (l ++ [x]) = (f (endF f b l) x).1 := by
  induction l generalizing b with
  | nil => simp [runF, endF]
  | cons y l ih => simp [runF, endF, ih]
theorem runF_take (f : Nat → Nat → Nat × Nat) (b : Nat) (l : List Nat) (k : Nat) (hk : k < l.length) :
    runF f b (l.take (k + 1)) = runF f b (l.take k) ++ [(f (endF f b (l.take k)) (l.getD k 0)).2] ∧ endF f b (l.take (k + 1)) = (f (endF f b (l.take k)) (l.getD k 0)).1 := by
  have e : l.take (k + 1) = l.take k ++ [l.getD k 0] := by
    rw [List.take_succ_eq_append_getElem hk]; simp [List.getD, List.getElem?_eq_getElem hk]
  rw [e]; exact runF_snoc f b (l.take k) _
theorem endF_lt (f : Nat → Nat → Nat × Nat) (hf : ∀ b x, b < 18446744073709551616 → x < 18446744073709551616 → (f b x).1 < 18446744073709551616) (b : Nat) (hb : b < 18446744073709551616) (l : List Nat) (hl : ∀ x ∈ l, x < 18446744073709551616) : endF f b l < 18446744073709551616 := by
  induction l generalizing b with
  | nil => exact hb
  | cons x l ih => exact ih _ (hf b x hb (hl x (by simp))) (fun y hy => hl y (by simp [hy]))
theorem runF_lt (f : Nat → Nat → Nat × Nat) (hf : ∀ b x, b < 18446744073709551616 → x < 18446744073709551616 → (f b x).1 < 18446744073709551616 ∧ (f b x).2 < 18446744073709551616) (b : Nat) (hb : b < 18446744073709551616) (l : List Nat) (hl : ∀ x ∈ l, x < 18446744073709551616) : ∀ y ∈ runF f b l, y < 18446744073709551616 := by
  induction l generalizing b with
  | nil => intro y hy; simp [runF] at hy
  | cons x l ih =>
    intro y hy
    have h := hf b x hb (hl x (by simp))
    rcases List.mem_cons.1 hy with rfl | hy
    · exact h.2
    · exact ih _ h.1 (fun z hz => hl z (by simp [hz])) y hy

def diffs (l : List Nat) : List Nat := runF fd 0 l
def sums (l : List Nat) : List Nat := runF fs 0 l
theorem fd_lt (b x : Nat) (hb : b < 18446744073709551616) (hx : x < 18446744073709551616) : (fd b x).1 < 18446744073709551616 ∧ (fd b x).2 < 18446744073709551616 := ⟨hx, Nat.mod_lt _ (by decide)⟩
theorem fs_lt (b x : Nat) (hb : b < 18446744073709551616) (hx : x < 18446744073709551616) : (fs b x).1 < 18446744073709551616 ∧ (fs b x).2 < 18446744073709551616 := ⟨Nat.mod_lt _ (by decide), Nat.mod_lt _ (by decide)⟩
theorem diffs_lt (l : List Nat) (hl : ∀ x ∈ l, x < 18446744073709551616) : ∀ y ∈ diffs l, y < 18446744073709551616 := runF_lt fd fd_lt 0 (by decide) l hl
theorem sums_lt (l : List Nat) (hl : ∀ x ∈ l, x < 18446744073709551616) : ∀ y ∈ sums l, y < 18446744073709551616 := runF_lt fs fs_lt 0 (by decide) l hl
theorem diffs_length (l : List Nat) : (diffs l).length = l.length := runF_length _ _ _
theorem sums_length (l : List Nat) : (sums l).length = l.length := runF_length _ _ _

theorem sums_diffsF (b : Nat) (hb : b < 18446744073709551616) (l : List Nat) (hl : ∀ x ∈ l, x < 18446744073709551616) : runF fs b (runF fd b l) = l := by
  induction l generalizing b with
  | nil => rfl
  | cons x l ih =>
    have hx : x < 18446744073709551616 := hl x (by simp)
    have e : (b + (x + (18446744073709551616 - b)) % 18446744073709551616) % 18446744073709551616 = x := by
      rw [Nat.add_mod_mod, show b + (x + (18446744073709551616 - b)) = x + 18446744073709551616 by omega, Nat.add_mod_right, Nat.mod_eq_of_lt hx]
    simp only [runF, fd, fs, e]
    rw [ih x hx (fun y hy => hl y (by simp [hy]))]
theorem diffs_sumsF (b : Nat) (hb : b < 18446744073709551616) (l : List Nat) (hl : ∀ x ∈ l, x < 18446744073709551616) : runF fd b (runF fs b l) = l := by
  induction l generalizing b with
  | nil => rfl
  | cons x l ih =>
    have hx : x < 18446744073709551616 := hl x (by simp)
    have e : ((b + x) % 18446744073709551616 + (18446744073709551616 - b)) % 18446744073709551616 = x := by
      rw [Nat.mod_add_mod, show b + x + (18446744073709551616 - b) = x + 18446744073709551616 by omega, Nat.add_mod_right, Nat.mod_eq_of_lt hx]
    simp only [runF, fd, fs, e]
    rw [ih _ (Nat.mod_lt _ (by decide)) (fun y hy => hl y (by simp [hy]))]
theorem sums_diffs (l : List Nat) (hl : ∀ x ∈ l, x < 18446744073709551616) : sums (diffs l) = l := sums_diffsF 0 (by decide) l hl
theorem diffs_sums (l : List Nat) (hl : ∀ x ∈ l, x < 18446744073709551616) : diffs (sums l) = l := diffs_sumsF 0 (by decide) l hl

theorem zig_lt (n : Nat) (h : n < 18446744073709551616) : zig n < 18446744073709551616 := by unfold zig; split <;> omega
theorem zag_lt (n : Nat) (h : n < 18446744073709551616) : zag n < 18446744073709551616 := by unfold zag; split <;> omega
theorem zag_zig (n : Nat) (h : n < 18446744073709551616) : zag (zig n) = n := by unfold zig zag; split <;> split <;> omega
theorem zig_zag (n : Nat) (h : n < 18446744073709551616) : zig (zag n) = n := by unfold zig zag; split <;> split <;> omega
def zigs (l : List Nat) : List Nat := l.map zig
def zags (l : List Nat) : List Nat := l.map zag
theorem run_zig (b : Nat) (l : List Nat) : runF fzig b l = zigs l := by
  induction l with
  | nil => rfl
  | cons x l ih => simp only [runF, fzig, zigs, List.map_cons] at *; rw [ih]
theorem run_zag (b : Nat) (l : List Nat) : runF fzag b l = zags l := by
  induction l with
  | nil => rfl
  | cons x l ih => simp only [runF, fzag, zags, List.map_cons] at *; rw [ih]
theorem zags_zigs (l : List Nat) (hl : ∀ x ∈ l, x < 18446744073709551616) : zags (zigs l) = l := by
  unfold zags zigs
  rw [List.map_map]
  conv => rhs; rw [← List.map_id l]
  exact List.map_congr_left (fun x hx => zag_zig x (hl x hx))
theorem zigs_lt (l : List Nat) (hl : ∀ x ∈ l, x < 18446744073709551616) : ∀ y ∈ zigs l, y < 18446744073709551616 := by
  intro y hy
  obtain ⟨x, hx, rfl⟩ := List.mem_map.1 hy
  exact zig_lt x (hl x hx)
theorem zags_lt (l : List Nat) (hl : ∀ x ∈ l, x < 18446744073709551616) : ∀ y ∈ zags l, y < 18446744073709551616 := by
  intro y hy
  obtain ⟨x, hx, rfl⟩ := List.mem_map.1 hy
  exact zag_lt x (hl x hx)
end Go.Proofs.Ytpjmpbpbfjemdaa.D
