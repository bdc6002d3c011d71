/- More of conditions: how many stand behind k nodes, the reference's ways, De Morgan, what is more. -/
import Derived.Test.YtecfknolpnjokaaOPlain
namespace Go.Proofs.Ytecfknolpnjokaa.O
set_option linter.unusedVariables false

theorem chk_alone (ks : List Int) : ∀ (p : List Cd) (free : Nat), chk ks free p = 0 → ∀ c ∈ p, alone ks c = 0 := by
  intro p
  induction p with
  | nil => intro _ _ c hc; simp at hc
  | cons x p ih =>
    intro free h c hc
    rw [chk] at h
    by_cases hn : nodeE ks free x ≠ 0
    · rw [if_pos hn] at h; exact absurd h hn
    · rw [if_neg hn] at h
      rcases List.mem_cons.1 hc with rfl | hc
      · exact (nodeE_zero (show nodeE ks free c = 0 by omega)).1
      · exact ih _ h c hc
theorem run_free (ask : Cd → Nat) (jo : Int → Nat → Nat → Nat) (ks : List Int) : ∀ (p : List Cd) (st : List Nat), chk ks st.length p = 0 →
    (∀ j, j < p.length → parts (p.getD j nullC).op ≤ (run ask jo st (p.take j)).length) ∧ (run ask jo st p).length = 1 := by
  intro p
  induction p with
  | nil =>
    intro st h
    unfold chk at h
    refine ⟨fun j hj => by simp at hj, ?_⟩
    by_cases h1 : st.length ≠ 1
    · rw [if_pos h1] at h; cases h
    · show st.length = 1; omega
  | cons c p ih =>
    intro st h
    rw [chk] at h
    by_cases hn : nodeE ks st.length c ≠ 0
    · rw [if_pos hn] at h; exact absurd h hn
    · rw [if_neg hn] at h
      have hz := nodeE_zero (show nodeE ks st.length c = 0 by omega)
      have hl := run_len ask jo st c hz.2
      rw [← hl] at h
      obtain ⟨i1, i2⟩ := ih (step ask jo st c) h
      refine ⟨fun j hj => ?_, i2⟩
      cases j with
      | zero => exact hz.2
      | succ j =>
        exact i1 j (by simpa using hj)
theorem check_zero {p : List Cd} {ks : List Int} (h : check p ks = 0) : p.length ≤ 16 ∧ chk ks 0 p = 0 := by
  unfold check at h
  by_cases h1 : 16 < p.length
  · rw [if_pos h1] at h; cases h
  · rw [if_neg h1] at h; exact ⟨by omega, h⟩
theorem cellE_lt (k : Int) (c : C.Cl) : C.cellE k c < 9 := by
  unfold C.cellE
  (repeat' split) <;> omega
theorem alone_lt (ks : List Int) (c : Cd) : alone ks c < 9 := by
  unfold alone
  have := cellE_lt (ks.getD c.col.toNat 0) c.c
  generalize C.cellE (ks.getD c.col.toNat 0) c.c = z at *
  (repeat' split) <;> omega
theorem nodeE_lt9 (ks : List Int) (free : Nat) (c : Cd) : nodeE ks free c < 9 := by
  unfold nodeE
  have := alone_lt ks c
  generalize alone ks c = z at *
  (repeat' split) <;> omega
theorem chk_lt9 (ks : List Int) : ∀ (p : List Cd) (free : Nat), chk ks free p < 9 := by
  intro p
  induction p with
  | nil => intro free; unfold chk; split <;> omega
  | cons c p ih =>
    intro free
    rw [chk]
    have := nodeE_lt9 ks free c
    split
    · omega
    · exact ih _
theorem check_lt (p : List Cd) (ks : List Int) : check p ks < 9 := by
  unfold check
  split
  · omega
  · exact chk_lt9 ks p 0
theorem Ok_here {k : Int} {s : S.St} (h : S.Ok k s) (hr : s.nulls < s.rows) : s.least.kind ≠ 0 ∧ s.most.kind ≠ 0 := by
  have := h.kind
  rcases h.st with ⟨h1, _⟩ | ⟨_, h2, h3⟩
  · omega
  · rw [h2, h3]; omega
/-- a leaf that is right -/
theorem alone_leaf {ks : List Int} {c : Cd} (h : alone ks c = 0) (hp : parts c.op = 0) : 1 ≤ c.op ∧ c.op ≤ 4 ∧ 0 ≤ c.col ∧ c.col < ks.length ∧ (c.op ≠ 4 → c.c.kind ≠ 0) := by
  unfold alone at h
  rcases parts_cases c.op with ⟨_, h5, h6, h7⟩ | hc | hc
  · by_cases a1 : c.op < 1 ∨ 7 < c.op
    · rw [if_pos a1] at h; cases h
    rw [if_neg a1, if_neg (by omega)] at h
    by_cases a2 : c.col < 0 ∨ (ks.length : Int) ≤ c.col
    · rw [if_pos a2] at h; cases h
    rw [if_neg a2] at h
    refine ⟨by omega, by omega, by omega, by omega, fun h4 => ?_⟩
    by_cases a3 : ks.getD c.col.toNat 0 ≠ 1 ∧ ks.getD c.col.toNat 0 ≠ 2
    · rw [if_pos a3] at h; cases h
    rw [if_neg a3, if_neg h4] at h
    by_cases a4 : C.cellE (ks.getD c.col.toNat 0) c.c ≠ 0
    · rw [if_pos a4] at h; exact absurd h a4
    rw [if_neg a4] at h
    intro hk
    rw [if_pos hk] at h; cases h
  · omega
  · omega
theorem alone_node {ks : List Int} {c : Cd} (h : alone ks c = 0) : 1 ≤ c.op ∧ c.op ≤ 7 := by
  unfold alone at h
  by_cases a1 : c.op < 1 ∨ 7 < c.op
  · rw [if_pos a1] at h; cases h
  · omega

/-- sets: what the reference reckons -/
def ms (no unknown yes : Bool) : Nat := (if no then 1 else 0) + (if unknown then 2 else 0) + (if yes then 4 else 0)
theorem ms_lt (a b c : Bool) : ms a b c < 8 := by cases a <;> cases b <;> cases c <;> decide
def nt (x : Nat) : Nat := ms (has x 2) (has x 1) (has x 0)
def rt (op : Int) (a b : Nat) : Nat := if (op = 5 ∧ b < a) ∨ (op = 6 ∧ a < b) then b else a
def rj (op : Int) (x y : Nat) : Nat → Nat
  | 0 => 0
  | n + 1 => if has x (n / 3) && has y (n % 3) && !has (rj op x y n) (rt op (n / 3) (n % 3)) then rj op x y n + 2 ^ rt op (n / 3) (n % 3) else rj op x y n
theorem joS_not : ∀ x : Fin 8, joS 7 x.val x.val = nt x.val := by decide +kernel
theorem joS_and : ∀ x y : Fin 8, joS 5 x.val y.val = rj 5 x.val y.val 9 := by decide +kernel
theorem joS_or : ∀ x y : Fin 8, joS 6 x.val y.val = rj 6 x.val y.val 9 := by decide +kernel
theorem joS_7 {x : Nat} (hx : x < 8) : joS 7 x x = nt x := joS_not ⟨x, hx⟩
theorem joS_5 {x y : Nat} (hx : x < 8) (hy : y < 8) : joS 5 x y = rj 5 x y 9 := joS_and ⟨x, hx⟩ ⟨y, hy⟩
theorem joS_6 {x y : Nat} (hx : x < 8) (hy : y < 8) : joS 6 x y = rj 6 x y 9 := joS_or ⟨x, hx⟩ ⟨y, hy⟩
theorem rt_le (op : Int) (a b : Nat) (ha : a ≤ 2) (hb : b ≤ 2) : rt op a b ≤ 2 := by unfold rt; split <;> omega
theorem rj_lt : ∀ x y : Fin 8, ∀ n : Fin 10, rj 5 x.val y.val n.val < 8 ∧ rj 6 x.val y.val n.val < 8 := by decide +kernel

/-- a leaf's set, as the reference says it -/
def leafS (c : Cd) (s : S.St) (f : Bl.F) : Nat :=
  if c.op = 4 then ms (decide (s.nulls < s.rows)) false (decide (0 < s.nulls))
  else if ¬ s.nulls < s.rows then ms false (decide (0 < s.nulls)) false
  else if c.op = 1 then (if C.less c.c s.least || C.less s.most c.c || !Bl.may f c.c then ms true (decide (0 < s.nulls)) false else if s.least = s.most then ms false (decide (0 < s.nulls)) true else ms true (decide (0 < s.nulls)) true)
  else if c.op = 2 then ms (!C.less s.most c.c) (decide (0 < s.nulls)) (C.less s.most c.c || C.less s.least c.c)
  else ms (!C.less c.c s.least) (decide (0 < s.nulls)) (C.less c.c s.least || C.less c.c s.most)
theorem leaf_is {k : Int} {c : Cd} {s : S.St} (f : Bl.F) (hs : S.Ok k s) (h1 : 1 ≤ c.op) (h4 : c.op ≤ 4) : mayBe c s f = leafS c s f := by
  have hn0 : told c C.null = if c.op = 4 then 2 else 1 := by
    unfold told; simp [C.null]
  unfold mayBe leafS there
  rw [hn0]
  by_cases a4 : c.op = 4
  · rw [if_pos a4, if_pos a4]
    by_cases hr : s.nulls < s.rows
    · have hk := Ok_here hs hr
      have t1 : told c s.least = 0 := by unfold told; rw [if_pos a4, if_neg hk.1]
      have t2 : told c s.most = 0 := by unfold told; rw [if_pos a4, if_neg hk.2]
      by_cases hn : 0 < s.nulls <;> simp [hr, hn, t1, t2, a4, ms]
    · by_cases hn : 0 < s.nulls <;> simp [hr, hn, ms]
  · rw [if_neg a4, if_neg a4]
    by_cases hr : s.nulls < s.rows
    · have hk := Ok_here hs hr
      rw [if_pos hr, if_neg (show ¬ ¬ s.nulls < s.rows from fun h => h hr)]
      by_cases b1 : c.op = 1
      · rw [if_neg (show ¬ c.op ≠ 1 from fun h => h b1), if_pos b1]
        by_cases q1 : (C.less c.c s.least || C.less s.most c.c || !Bl.may f c.c) = true
        · rw [if_pos q1, if_pos q1]
          by_cases hn : 0 < s.nulls <;> simp [hn, ms]
        · rw [if_neg q1, if_neg q1]
          by_cases q2 : s.least = s.most
          · rw [if_pos q2, if_pos q2]
            by_cases hn : 0 < s.nulls <;> simp [hn, ms]
          · rw [if_neg q2, if_neg q2]
            by_cases hn : 0 < s.nulls <;> simp [hn, ms]
      · rw [if_pos b1, if_neg b1]
        have hlm := hs.lm
        by_cases b2 : c.op = 2
        · rw [if_pos b2]
          have t1 : told c s.least = if C.less s.least c.c = true then 2 else 0 := by unfold told; rw [if_neg a4, if_neg hk.1, if_pos b2]
          have t2 : told c s.most = if C.less s.most c.c = true then 2 else 0 := by unfold told; rw [if_neg a4, if_neg hk.2, if_pos b2]
          rw [t1, t2]
          have himp : C.less s.most c.c = true → C.less s.least c.c = true := by
            intro h
            cases hl : C.less s.least c.c
            · have := S.le_tr (a := c.c) (b := s.least) (c := s.most) hl hlm
              rw [this] at h; cases h
            · rfl
          cases e1 : C.less s.most c.c <;> cases e2 : C.less s.least c.c
          · by_cases hn : 0 < s.nulls <;> simp [hn, ms]
          · by_cases hn : 0 < s.nulls <;> simp [hn, ms]
          · rw [himp e1] at e2; cases e2
          · by_cases hn : 0 < s.nulls <;> simp [hn, ms]
        · rw [if_neg b2]
          have b3 : c.op = 3 := by omega
          have t1 : told c s.least = if C.less c.c s.least = true then 2 else 0 := by unfold told; rw [if_neg a4, if_neg hk.1, if_neg b2, if_pos b3]
          have t2 : told c s.most = if C.less c.c s.most = true then 2 else 0 := by unfold told; rw [if_neg a4, if_neg hk.2, if_neg b2, if_pos b3]
          rw [t1, t2]
          have himp : C.less c.c s.least = true → C.less c.c s.most = true := by
            intro h
            cases hl : C.less c.c s.most
            · have := S.le_tr (a := s.least) (b := s.most) (c := c.c) hlm hl
              rw [this] at h; cases h
            · rfl
          cases e1 : C.less c.c s.least <;> cases e2 : C.less c.c s.most
          · by_cases hn : 0 < s.nulls <;> simp [hn, ms]
          · by_cases hn : 0 < s.nulls <;> simp [hn, ms]
          · rw [himp e1] at e2; cases e2
          · by_cases hn : 0 < s.nulls <;> simp [hn, ms]
    · rw [if_neg hr, if_pos (show ¬ s.nulls < s.rows from hr)]
      by_cases hn : 0 < s.nulls <;> simp [hn, ms]
end Go.Proofs.Ytecfknolpnjokaa.O
