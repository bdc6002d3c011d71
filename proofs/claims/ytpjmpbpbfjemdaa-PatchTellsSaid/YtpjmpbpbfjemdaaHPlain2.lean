/- Plain mathematics of runs and blocks: how long, and read as they were. -/
import Derived.Test.YtpjmpbpbfjemdaaHPlain
namespace Go.Proofs.Ytpjmpbpbfjemdaa.H
set_option linter.unusedVariables false

theorem sz8 (m : Nat) : 8 * B.sz m ≤ m + 7 := by unfold B.sz; omega
theorem vsz1 (n : Nat) (h : n < 128) : V.sz n = 1 := by
  have := V.sz_spec n; omega
theorem vsz2 (n : Nat) (h : n < 16384) : V.sz n ≤ 2 := by
  have := V.sz_spec n; omega

/-- how long a list's bytes are -/
theorem bytes_bound (w : Nat) : ∀ l : List Nat, l.length ≤ 64 → 8 * (bytes w l).length ≤ l.length * w + l.length + 7 * w + 7 := by
  refine parts_ind (fun l => l.length ≤ 64 → 8 * (bytes w l).length ≤ l.length * w + l.length + 7 * w + 7) ?_ ?_ ?_
  · intro _; simp [bytes_nil]
  · intro l h0 h8 ih hl
    have hr := row_le l
    have := ih (by rw [List.length_drop]; omega)
    rw [bytes_run w l h0 h8, List.length_append]
    simp only [Part.bytes, List.length_append, V.enc_length, pkd_length, List.length_cons, List.length_nil, Nat.zero_add, Nat.one_mul]
    rw [List.length_drop] at this
    have hs := sz8 w
    have hm : (l.length - row l) * w + row l * w = l.length * w := by rw [← Nat.add_mul]; congr 1; omega
    have h8w : 8 * w ≤ row l * w := Nat.mul_le_mul_right _ h8
    have hs2 : 8 * B.sz w ≤ 8 * w := by unfold B.sz; omega
    by_cases h64 : row l < 64
    · have := vsz1 (2 * row l) (by omega); omega
    · have := vsz2 (2 * row l) (by omega); omega
  · intro l h0 h8 ih hl
    have hr := loose_le l
    have hp := loose_pos l (fun e => e.elim h0 h8)
    have := ih (by rw [List.length_drop]; omega)
    rw [bytes_blk w l h0 h8, List.length_append]
    simp only [Part.bytes, List.length_append, V.enc_length, pkd_length, pad_length, List.length_take, Nat.min_eq_left hr]
    rw [List.length_drop] at this
    have hnb : nb (loose l) * 8 < 128 ∧ loose l ≤ nb (loose l) * 8 ∧ nb (loose l) * 8 ≤ loose l + 7 := by unfold nb; omega
    have hv := vsz1 (2 * nb (loose l) + 1) (by omega)
    have hsz : 8 * B.sz (nb (loose l) * 8 * w) = nb (loose l) * 8 * w := by
      rw [Nat.mul_assoc, Nat.mul_left_comm]; unfold B.sz; omega
    rcases loose_full l with hf | hf
    · have e : nb (loose l) * 8 = loose l := by unfold nb; omega
      rw [e] at hsz ⊢
      have hm : (l.length - loose l) * w + loose l * w = l.length * w := by rw [← Nat.add_mul]; congr 1; omega
      omega
    · rw [hf] at hsz hnb hp hv ⊢
      have e : l.drop l.length = [] := List.drop_length
      rw [e, bytes_nil]
      have hm : nb l.length * 8 * w ≤ (l.length + 7) * w := Nat.mul_le_mul_right _ hnb.2.2
      rw [Nat.add_mul] at hm
      simp only [List.length_nil]
      omega

/-- a part that stands in a text -/
def PartOk (w left : Nat) : Part → Prop
  | .run n m => n < 2 ^ w ∧ 1 ≤ m ∧ m ≤ left
  | .blk l => (∀ x ∈ l, x < 2 ^ w) ∧ 1 ≤ l.length ∧ l.length ≤ left ∧ (l.length % 8 = 0 ∨ l.length = left)
def PartsOk (w : Nat) : Nat → List Part → Prop
  | _, [] => True
  | left, p :: ps => PartOk w left p ∧ PartsOk w (left - p.nums.length) ps

theorem leN_pkd (w : Nat) (l : List Nat) (h : ∀ x ∈ l, x < 2 ^ w) : B.leN (pkd w l) = B.pk w l := by
  unfold pkd
  rw [B.leN_le]
  apply Nat.mod_eq_of_lt
  have := B.pk_lt w l h
  rw [Nat.mul_comm] at this
  refine Nat.lt_of_lt_of_le this ?_
  rw [B.two8]; exact Nat.pow_le_pow_right (by omega) (by unfold B.sz; omega)
theorem pk_top (w : Nat) (l : List Nat) (h : ∀ x ∈ l, x < 2 ^ w) : B.pk w l / 2 ^ (l.length * w) = 0 := by
  have := B.pk_lt w l h
  rw [Nat.mul_comm] at this
  exact Nat.div_eq_of_lt this
theorem wd_zero (k : Nat) : B.wd (List.replicate k 0) = 0 := by
  have := (B.wd_le (List.replicate k 0) 0).2 (fun x hx => by rw [List.eq_of_mem_replicate hx]; simp)
  omega

def Part.head : Part → Nat
  | .run _ m => 2 * m
  | .blk l => 2 * nb l.length + 1
def Part.pays : Part → List Nat
  | .run n _ => [n]
  | .blk l => pad l
theorem bytes_eq (w : Nat) (p : Part) : Part.bytes w p = V.enc p.head ++ pkd w p.pays := by cases p <;> rfl
theorem fit_even (m left : Nat) : fit (2 * m) left = if m = 0 then 1 else if left < m then 2 else 0 := by
  unfold fit
  rw [show 2 * m / 2 = m by omega, show 2 * m % 2 = 0 by omega]; rfl
theorem fit_odd (k left : Nat) : fit (2 * k + 1) left = if k = 0 then 1 else if nb left < k then 2 else 0 := by
  unfold fit
  rw [show (2 * k + 1) / 2 = k by omega, show (2 * k + 1) % 2 = 1 by omega]; rfl
theorem head_lt (w left : Nat) (p : Part) (hl : left ≤ 64) (h : PartOk w left p) : p.head < 128 + 2 ∧ fit p.head left = 0 ∧ p.pays.length = held p.head ∧ (∀ x ∈ p.pays, x < 2 ^ w) := by
  cases p with
  | run n m =>
    obtain ⟨h1, h2, h3⟩ := h
    simp only [Part.head, Part.pays]
    refine ⟨by omega, ?_, ?_, by simpa using h1⟩
    · rw [fit_even, if_neg (by omega), if_neg (by omega)]
    · unfold held; rw [if_neg (by omega)]; rfl
  | blk l =>
    obtain ⟨h1, h2, h3, h4⟩ := h
    simp only [Part.head, Part.pays]
    have hn : 1 ≤ nb l.length ∧ nb l.length ≤ 8 ∧ nb l.length ≤ nb left := by unfold nb; omega
    refine ⟨by omega, ?_, ?_, pad_mem l w h1⟩
    · rw [fit_odd, if_neg (by omega), if_neg (by omega)]
    · unfold held; rw [if_pos (by omega), pad_length]; omega

theorem first_bytes (w left : Nat) (p : Part) (t : List UInt8) (hl : left ≤ 64) (h : PartOk w left p) : first (Part.bytes w p ++ t) left w = (0, p, (Part.bytes w p).length) := by
  obtain ⟨h1, h2, h3, h4⟩ := head_lt w left p hl h
  rw [bytes_eq]
  have hpl : (pkd w p.pays).length = B.sz (held p.head * w) := by rw [pkd_length, h3]
  unfold first
  rw [List.append_assoc, V.rd_enc p.head (by omega)]
  simp only [ne_eq, not_true_eq_false, if_false]
  unfold firstL
  rw [if_neg (by simp [h2]), if_neg (by rw [List.length_append, List.length_append, V.enc_length, hpl]; omega)]
  have hd : ((V.enc p.head ++ (pkd w p.pays ++ t)).drop (V.sz p.head)).take (B.sz (held p.head * w)) = pkd w p.pays := by
    rw [List.drop_append_of_le_length (by rw [V.enc_length]; omega), List.drop_of_length_le (by rw [V.enc_length]; omega), List.nil_append, ← hpl, List.take_left]
  rw [hd, List.length_append, V.enc_length, hpl]
  unfold body
  rw [leN_pkd w _ h4]
  have htop := pk_top w p.pays h4
  rw [h3] at htop
  rw [if_neg (by simp [htop])]
  cases p with
  | run n m =>
    have hdg : B.dg w 1 (B.pk w [n]) = [n] := B.dg_pk w [n] h4
    rw [if_pos (show (Part.run n m).head % 2 = 0 by show 2 * m % 2 = 0; omega)]
    show (0, Part.run ((B.dg w 1 (B.pk w [n])).headD 0) (2 * m / 2), _) = _
    rw [hdg, show 2 * m / 2 = m by omega]; rfl
  | blk l =>
    obtain ⟨g1, g2, g3, g4⟩ := h
    have h3' : (pad l).length = held (2 * nb l.length + 1) := h3
    have hdg : B.dg w (pad l).length (B.pk w (pad l)) = pad l := B.dg_pk w (pad l) h4
    rw [h3'] at hdg
    have hmin : min left (held (2 * nb l.length + 1)) = l.length := by rw [← h3', pad_length]; unfold nb; omega
    have e1 : (pad l).drop l.length = List.replicate (8 * nb l.length - l.length) 0 := by unfold pad; rw [List.drop_left]
    have e2 : (pad l).take l.length = l := by unfold pad; rw [List.take_left]
    rw [if_neg (show ¬ (Part.blk l).head % 2 = 0 by show ¬ (2 * nb l.length + 1) % 2 = 0; omega)]
    show (if B.wd ((B.dg w (held (2 * nb l.length + 1)) (B.pk w (pad l))).drop (min left (held (2 * nb l.length + 1)))) ≠ 0 then (1, Part.blk [], 0)
      else (0, Part.blk ((B.dg w (held (2 * nb l.length + 1)) (B.pk w (pad l))).take (min left (held (2 * nb l.length + 1)))), _)) = _
    rw [hdg, hmin, e1, e2, wd_zero, if_neg (by simp)]

theorem first_cut (w left : Nat) (p : Part) (k : Nat) (hl : left ≤ 64) (h : PartOk w left p) (hk : k < (Part.bytes w p).length) : first ((Part.bytes w p).take k) left w = (5, .blk [], 0) := by
  obtain ⟨h1, h2, h3, h4⟩ := head_lt w left p hl h
  rw [bytes_eq] at hk ⊢
  have hpl : (pkd w p.pays).length = B.sz (held p.head * w) := by rw [pkd_length, h3]
  rw [List.length_append, V.enc_length, hpl] at hk
  unfold first
  by_cases hs : k < V.sz p.head
  · rw [List.take_append_of_le_length (by rw [V.enc_length]; omega), V.rd_cut p.head k (by omega) hs]
    simp
  · have e : (V.enc p.head ++ pkd w p.pays).take k = V.enc p.head ++ (pkd w p.pays).take (k - V.sz p.head) := by
      rw [List.take_append, V.enc_length, List.take_of_length_le (by rw [V.enc_length]; omega)]
    rw [e, V.rd_enc p.head (by omega)]
    simp only [ne_eq, not_true_eq_false, if_false]
    unfold firstL
    rw [if_neg (by simp [h2]), if_pos (by rw [List.length_append, V.enc_length, List.length_take, hpl]; omega)]

theorem nums_pos (w left : Nat) (p : Part) (h : PartOk w left p) : 1 ≤ p.nums.length ∧ p.nums.length ≤ left := by
  cases p with
  | run n m => simp only [Part.nums, List.length_replicate]; exact ⟨h.2.1, h.2.2⟩
  | blk l => exact ⟨h.2.1, h.2.2.1⟩

theorem read_parts (w : Nat) : ∀ (ps : List Part) (left : Nat) (t : List UInt8), left ≤ 64 → PartsOk w left ps →
    read (ps.flatMap (Part.bytes w) ++ t) left w = pre (ps.flatMap Part.nums) (read t (left - (ps.flatMap Part.nums).length) w) := by
  intro ps
  induction ps with
  | nil =>
    intro left t _ _
    simp only [List.flatMap_nil, List.nil_append, List.length_nil, Nat.sub_zero]
    exact (pre_nil _ (read_err t left w)).symm
  | cons p ps ih =>
    intro left t hl h
    obtain ⟨h1, h2⟩ := h
    have hn := nums_pos w left p h1
    have hf := first_bytes w left p (ps.flatMap (Part.bytes w) ++ t) hl h1
    simp only [List.flatMap_cons, List.append_assoc]
    rw [read_step _ left w (by omega) (by rw [hf]), hf]
    simp only [List.drop_left]
    rw [ih (left - p.nums.length) t (by omega) h2, pre_pre, List.length_append, Nat.sub_sub]

theorem read_cut (w : Nat) : ∀ (ps : List Part) (left k : Nat), left ≤ 64 → PartsOk w left ps → k < (ps.flatMap (Part.bytes w)).length → (read ((ps.flatMap (Part.bytes w)).take k) left w).2 = 5 := by
  intro ps
  induction ps with
  | nil => intro left k _ _ hk; simp at hk
  | cons p ps ih =>
    intro left k hl h hk
    obtain ⟨h1, h2⟩ := h
    have hn := nums_pos w left p h1
    simp only [List.flatMap_cons] at hk ⊢
    rw [List.length_append] at hk
    by_cases hc : k < (Part.bytes w p).length
    · rw [List.take_append_of_le_length (by omega)]
      have hf := first_cut w left p k hl h1 hc
      rw [read_bad _ left w (by omega) (by rw [hf]; simp), hf]
    · have e : (Part.bytes w p ++ ps.flatMap (Part.bytes w)).take k = Part.bytes w p ++ (ps.flatMap (Part.bytes w)).take (k - (Part.bytes w p).length) := by
        rw [List.take_append, List.take_of_length_le (by omega)]
      rw [e]
      have hf := first_bytes w left p ((ps.flatMap (Part.bytes w)).take (k - (Part.bytes w p).length)) hl h1
      rw [read_step _ left w (by omega) (by rw [hf]), hf]
      simp only [List.drop_left]
      have := ih (left - p.nums.length) (k - (Part.bytes w p).length) (by omega) h2 (by omega)
      unfold pre
      rw [this]; simp

/-- a list's parts stand in its text, and are the list -/
theorem parts_ok (w : Nat) : ∀ l : List Nat, (∀ x ∈ l, x < 2 ^ w) → PartsOk w l.length (parts l) ∧ (parts l).flatMap Part.nums = l := by
  refine parts_ind (fun l => (∀ x ∈ l, x < 2 ^ w) → PartsOk w l.length (parts l) ∧ (parts l).flatMap Part.nums = l) ?_ ?_ ?_
  · intro _; simp [parts_nil, PartsOk]
  · intro l h0 h8 ih hx
    have hr := row_le l
    obtain ⟨i1, i2⟩ := ih (fun x hx' => hx x (List.mem_of_mem_drop hx'))
    rw [parts_run l h0 h8]
    have hh : l.headD 0 ∈ l := by cases l with
      | nil => exact absurd rfl h0
      | cons x l => simp
    refine ⟨⟨⟨hx _ hh, by omega, hr⟩, ?_⟩, ?_⟩
    · simp only [Part.nums, List.length_replicate]
      rw [List.length_drop] at i1; exact i1
    · simp only [List.flatMap_cons, i2, Part.nums]
      rw [← row_take, List.take_append_drop]
  · intro l h0 h8 ih hx
    have hr := loose_le l
    have hp := loose_pos l (fun e => e.elim h0 h8)
    obtain ⟨i1, i2⟩ := ih (fun x hx' => hx x (List.mem_of_mem_drop hx'))
    rw [parts_blk l h0 h8]
    have hlt : (l.take (loose l)).length = loose l := by rw [List.length_take]; omega
    refine ⟨⟨⟨fun x hx' => hx x (List.mem_of_mem_take hx'), by omega, by omega, ?_⟩, ?_⟩, ?_⟩
    · rw [hlt]; exact loose_full l
    · simp only [Part.nums, hlt]
      rw [List.length_drop] at i1; exact i1
    · simp only [List.flatMap_cons, i2, Part.nums, List.take_append_drop]

theorem read_bytes (w : Nat) (l : List Nat) (t : List UInt8) (hl : l.length ≤ 64) (hx : ∀ x ∈ l, x < 2 ^ w) : read (bytes w l ++ t) l.length w = pre l (read t 0 w) := by
  obtain ⟨h1, h2⟩ := parts_ok w l hx
  have := read_parts w (parts l) l.length t hl h1
  rw [h2, Nat.sub_self] at this
  exact this
theorem read_back (w : Nat) (l : List Nat) (hl : l.length ≤ 64) (hx : ∀ x ∈ l, x < 2 ^ w) : read (bytes w l) l.length w = (l, 0) := by
  have := read_bytes w l [] hl hx
  rw [List.append_nil] at this
  rw [this, read_zero]; simp [pre]
theorem read_more (w : Nat) (l : List Nat) (b : UInt8) (hl : l.length ≤ 64) (hx : ∀ x ∈ l, x < 2 ^ w) : (read (bytes w l ++ [b]) l.length w).2 = 1 := by
  rw [read_bytes w l [b] hl hx, read_zero]; simp [pre]
theorem read_short (w : Nat) (l : List Nat) (k : Nat) (hl : l.length ≤ 64) (hx : ∀ x ∈ l, x < 2 ^ w) (hk : k < (bytes w l).length) : (read ((bytes w l).take k) l.length w).2 = 5 :=
  read_cut w (parts l) l.length k hl (parts_ok w l hx).1 hk
end Go.Proofs.Ytpjmpbpbfjemdaa.H
