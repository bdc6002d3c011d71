/- Plain mathematics of frames. -/
import Derived.Test.YtpjmpbpbfjemdaaVaryPlain
import Derived.Test.YtpjmpbpbfjemdaaBitsPlain
import Derived.Test.YtpjmpbpbfjemdaaHPlain
namespace Go.Proofs.Ytpjmpbpbfjemdaa.P
set_option linter.unusedVariables false

/-- the least of a list and one more -/
def mn (m : Nat) : List Nat → Nat
  | [] => m
  | x :: t => mn (min m x) t
def base : List Nat → Nat
  | [] => 0
  | x :: t => mn x t
theorem mn_start (m : Nat) (l : List Nat) : mn m l ≤ m := by
  induction l generalizing m with
  | nil => exact Nat.le_refl _
  | cons x t ih => exact Nat.le_trans (ih _) (Nat.min_le_left _ _)
theorem mn_le (m : Nat) (l : List Nat) : ∀ x ∈ l, mn m l ≤ x := by
  induction l generalizing m with
  | nil => intro x hx; simp at hx
  | cons y t ih =>
    intro x hx
    rcases List.mem_cons.1 hx with rfl | hx
    · exact Nat.le_trans (mn_start (min m _) t) (Nat.min_le_right m _)
    · exact ih _ x hx
theorem mn_mem (m : Nat) (l : List Nat) : mn m l = m ∨ mn m l ∈ l := by
  induction l generalizing m with
  | nil => exact Or.inl rfl
  | cons y t ih =>
    rcases ih (min m y) with h | h
    · show mn (min m y) t = m ∨ mn (min m y) t ∈ y :: t
      rw [h]
      rcases Nat.le_total m y with hh | hh
      · exact Or.inl (Nat.min_eq_left hh)
      · exact Or.inr (by rw [Nat.min_eq_right hh]; simp)
    · exact Or.inr (List.mem_cons_of_mem _ h)
theorem mn_snoc (m : Nat) (l : List Nat) (x : Nat) : mn m (l ++ [x]) = min (mn m l) x := by
  induction l generalizing m with
  | nil => rfl
  | cons y t ih => exact ih _
theorem mn_take (m : Nat) (l : List Nat) (k : Nat) (h : k < l.length) : mn m (l.take (k + 1)) = min (mn m (l.take k)) (l.getD k 0) := by
  rw [List.take_succ_eq_append_getElem h, mn_snoc]; simp [List.getD, List.getElem?_eq_getElem h]
theorem mn_self (x : Nat) (t : List Nat) : mn x (x :: t) = mn x t := by show mn (min x x) t = _; rw [Nat.min_self]
theorem base_le (l : List Nat) : ∀ x ∈ l, base l ≤ x := by
  cases l with
  | nil => intro x hx; simp at hx
  | cons y t =>
    intro x hx
    rcases List.mem_cons.1 hx with rfl | hx
    · exact mn_start _ _
    · exact mn_le _ _ x hx
theorem base_lt (l : List Nat) (hl : ∀ x ∈ l, x < 18446744073709551616) : base l < 18446744073709551616 := by
  cases l with
  | nil => decide
  | cons y t => have := mn_start y t; have := hl y (by simp); show mn y t < _; omega
theorem base_mem (l : List Nat) (h : l ≠ []) : base l ∈ l := by
  cases l with
  | nil => exact absurd rfl h
  | cons y t =>
    rcases mn_mem y t with h | h
    · show mn y t ∈ _; rw [h]; simp
    · exact List.mem_cons_of_mem _ h

def more (l : List Nat) : List Nat := l.map fun x => x - base l
theorem more_length (l : List Nat) : (more l).length = l.length := by simp [more]
theorem more_lt (l : List Nat) (hl : ∀ x ∈ l, x < 18446744073709551616) : ∀ y ∈ more l, y < 18446744073709551616 := by
  intro y hy
  obtain ⟨x, hx, rfl⟩ := List.mem_map.1 hy
  have := hl x hx; omega
theorem more_get (l : List Nat) (k : Nat) (h : k < l.length) : (more l).getD k 0 = l.getD k 0 - base l := by
  simp [more, List.getD, List.getElem?_eq_getElem h]
theorem more_shift (l : List Nat) (by' : Nat) : more (l.map fun x => x + by') = more l := by
  cases l with
  | nil => rfl
  | cons x t =>
    have h : ∀ (m : Nat) (t : List Nat), mn (m + by') (t.map fun x => x + by') = mn m t + by' := by
      intro m t
      induction t generalizing m with
      | nil => rfl
      | cons y t ih =>
        show mn (min (m + by') (y + by')) _ = mn (min m y) t + by'
        rw [← ih, show min (m + by') (y + by') = min m y + by' by omega]
    have hb : base ((x :: t).map fun x => x + by') = base (x :: t) + by' := h x t
    unfold more
    rw [hb, List.map_map]
    apply List.map_congr_left
    intro y _
    show y + by' - (base (x :: t) + by') = y - base (x :: t)
    omega

/-- does a number stand out of so many bits? -/
def out (w x : Nat) : Bool := !decide (B.bl x ≤ w)
/-- places of the numbers that are looked for -/
def plc (p : Nat → Bool) (k : Nat) : List Nat → List Nat
  | [] => []
  | x :: t => if p x then k :: plc p (k + 1) t else plc p (k + 1) t
theorem plc_snoc (p : Nat → Bool) (k : Nat) (l : List Nat) (x : Nat) : plc p k (l ++ [x]) = plc p k l ++ (if p x then [k + l.length] else []) := by
  induction l generalizing k with
  | nil => simp [plc]
  | cons y t ih =>
    simp only [List.cons_append, plc, ih, List.length_cons]
    rw [show k + 1 + t.length = k + (t.length + 1) by omega]
    split <;> simp
theorem plc_take (p : Nat → Bool) (l : List Nat) (k : Nat) (h : k < l.length) : plc p 0 (l.take (k + 1)) = plc p 0 (l.take k) ++ (if p (l.getD k 0) then [k] else []) := by
  have e : l.take (k + 1) = l.take k ++ [l.getD k 0] := by
    rw [List.take_succ_eq_append_getElem h]; simp [List.getD, List.getElem?_eq_getElem h]
  rw [e, plc_snoc, List.length_take, Nat.zero_add, Nat.min_eq_left (by omega)]
theorem plc_lt (p : Nat → Bool) (k : Nat) (l : List Nat) : ∀ a ∈ plc p k l, k ≤ a ∧ a < k + l.length := by
  induction l generalizing k with
  | nil => intro a ha; simp [plc] at ha
  | cons x t ih =>
    intro a ha
    simp only [plc] at ha
    split at ha
    · rcases List.mem_cons.1 ha with rfl | ha
      · simp
      · have := ih (k + 1) a ha; simp; omega
    · have := ih (k + 1) a ha; simp; omega
theorem plc_len (p : Nat → Bool) (k : Nat) (l : List Nat) : (plc p k l).length ≤ l.length := by
  induction l generalizing k with
  | nil => simp [plc]
  | cons x t ih => simp only [plc]; have := ih (k + 1); split <;> simp <;> omega
theorem plc_nodup (p : Nat → Bool) (k : Nat) (l : List Nat) : (plc p k l).Nodup := by
  induction l generalizing k with
  | nil => simp [plc]
  | cons x t ih =>
    simp only [plc]
    split
    · refine List.nodup_cons.2 ⟨fun h => ?_, ih _⟩
      have := plc_lt p (k + 1) t k h; omega
    · exact ih _
theorem plc_mem (p : Nat → Bool) (k : Nat) (l : List Nat) (i : Nat) (h : i < l.length) : k + i ∈ plc p k l ↔ p (l.getD i 0) = true := by
  induction l generalizing k i with
  | nil => simp at h
  | cons x t ih =>
    simp only [plc]
    cases i with
    | zero =>
      simp only [Nat.add_zero, List.getD_cons_zero]
      by_cases hp : p x = true
      · simp [hp]
      · rw [if_neg hp]
        refine ⟨fun h => ?_, fun h => absurd h hp⟩
        have := plc_lt p (k + 1) t k h; omega
    | succ i =>
      have := ih (k + 1) i (by simpa using h)
      rw [show k + 1 + i = k + (i + 1) by omega] at this
      simp only [List.getD_cons_succ]
      rw [← this]
      split
      · simp
      · exact Iff.rfl

/-- how many bytes a list takes by a width -/
def cost (w : Nat) (l : List Nat) : Nat := B.sz (l.length * w) + ((plc (out w) 0 l).map fun a => 1 + V.sz (l.getD a 0)).sum
/-- the same, number by number -/
def extra (w : Nat) : List Nat → Nat
  | [] => 0
  | x :: t => (if out w x then 1 + V.sz x else 0) + extra w t
theorem extra_snoc (w : Nat) (l : List Nat) (x : Nat) : extra w (l ++ [x]) = extra w l + (if out w x then 1 + V.sz x else 0) := by
  induction l with
  | nil => simp [extra]
  | cons y t ih => simp only [List.cons_append, extra, ih]; omega
theorem extra_take (w : Nat) (l : List Nat) (k : Nat) (h : k < l.length) : extra w (l.take (k + 1)) = extra w (l.take k) + (if out w (l.getD k 0) then 1 + V.sz (l.getD k 0) else 0) := by
  have e : l.take (k + 1) = l.take k ++ [l.getD k 0] := by
    rw [List.take_succ_eq_append_getElem h]; simp [List.getD, List.getElem?_eq_getElem h]
  rw [e, extra_snoc]
theorem extra_le (w : Nat) (l : List Nat) : extra w l ≤ 10 * l.length := by
  induction l with
  | nil => simp [extra]
  | cons x t ih => have := V.sz_le x; simp only [extra, List.length_cons]; split <;> omega
theorem plc_sum (w : Nat) (d t : List Nat) : ((plc (out w) d.length t).map fun a => 1 + V.sz ((d ++ t).getD a 0)).sum = extra w t := by
  induction t generalizing d with
  | nil => rfl
  | cons x t ih =>
    have h := ih (d ++ [x])
    rw [List.length_append, List.length_singleton, List.append_assoc, List.singleton_append] at h
    have hg : (d ++ x :: t).getD d.length 0 = x := by simp [List.getD]
    simp only [plc, extra]
    split
    · rw [List.map_cons, List.sum_cons, h, hg]
    · rw [h]; omega
theorem cost_eq (w : Nat) (l : List Nat) : cost w l = B.sz (l.length * w) + extra w l := by
  unfold cost
  have := plc_sum w [] l
  simp only [List.length_nil, List.nil_append] at this
  rw [this]

/-- the first of the least -/
def Best (f : Nat → Nat) (n w : Nat) : Prop := w ≤ n ∧ (∀ k, k ≤ n → f w ≤ f k) ∧ ∀ k, k < w → f w < f k
theorem best_one (f : Nat → Nat) (n u v : Nat) (hu : Best f n u) (hv : Best f n v) : u = v := by
  rcases Nat.lt_trichotomy u v with h | h | h
  · have := hv.2.2 u h; have := hu.2.1 v hv.1; omega
  · exact h
  · have := hu.2.2 v h; have := hv.2.1 u hu.1; omega
def upB (f : Nat → Nat) : Nat → Nat
  | 0 => 0
  | n + 1 => if f (n + 1) < f (upB f n) then n + 1 else upB f n
theorem upB_best (f : Nat → Nat) (n : Nat) : Best f n (upB f n) := by
  induction n with
  | zero => exact ⟨Nat.le_refl _, fun k hk => by obtain rfl : k = 0 := by omega
                                                 exact Nat.le_refl _, fun k hk => absurd hk (by simp [upB])⟩
  | succ n ih =>
    obtain ⟨h1, h2, h3⟩ := ih
    unfold upB
    split
    · rename_i h
      refine ⟨Nat.le_refl _, fun k hk => ?_, fun k hk => ?_⟩
      · by_cases hh : k = n + 1
        · rw [hh]; exact Nat.le_refl _
        · have := h2 k (by omega); omega
      · have := h2 k (by omega); omega
    · rename_i h
      refine ⟨by omega, fun k hk => ?_, h3⟩
      by_cases hh : k = n + 1
      · rw [hh]; omega
      · exact h2 k (by omega)
/-- looked for from above -/
def dnB (f : Nat → Nat) (w : Nat) : Nat → Nat
  | 0 => w
  | k + 1 => dnB f (if f k ≤ f w then k else w) k
theorem dnB_best (f : Nat → Nat) (n w k : Nat) (h1 : k ≤ w) (h2 : w ≤ n) (h3 : ∀ j, k ≤ j → j ≤ n → f w ≤ f j) (h4 : ∀ j, k ≤ j → j < w → f w < f j) : Best f n (dnB f w k) := by
  induction k generalizing w with
  | zero => exact ⟨h2, fun j hj => h3 j (by omega) hj, fun j hj => h4 j (by omega) hj⟩
  | succ k ih =>
    unfold dnB
    split
    · rename_i h
      refine ih k (Nat.le_refl _) (by omega) (fun j hj hn => ?_) (fun j hj hk => absurd hk (by omega))
      by_cases e : j = k
      · rw [e]; exact Nat.le_refl _
      · have := h3 j (by omega) hn; omega
    · rename_i h
      refine ih w (by omega) h2 (fun j hj hn => ?_) (fun j hj hw => ?_)
      · by_cases e : j = k
        · rw [e]; omega
        · exact h3 j (by omega) hn
      · by_cases e : j = k
        · rw [e]; omega
        · exact h4 j (by omega) hw
theorem dnB_up (f : Nat → Nat) (n : Nat) : dnB f n n = upB f n :=
  best_one f n _ _ (dnB_best f n n n (Nat.le_refl _) (Nat.le_refl _) (fun j h1 h2 => by rw [show j = n by omega]; exact Nat.le_refl _) (fun j h1 h2 => absurd h2 (by omega))) (upB_best f n)
def best (l : List Nat) : Nat := upB (fun w => cost w l) 64
theorem best_le (l : List Nat) : best l ≤ 64 := (upB_best _ 64).1
theorem best_least (l : List Nat) (w : Nat) (h : w ≤ 64) : cost (best l) l ≤ cost w l := (upB_best (fun w => cost w l) 64).2.1 w h

/-- what is packed -/
def ins (w : Nat) (l : List Nat) : List Nat := l.map fun x => if out w x then 0 else x
theorem ins_length (w : Nat) (l : List Nat) : (ins w l).length = l.length := by simp [ins]
theorem ins_fit (w : Nat) (l : List Nat) : ∀ x ∈ ins w l, x < 2 ^ w := by
  intro x hx
  obtain ⟨y, hy, rfl⟩ := List.mem_map.1 hx
  split
  · exact B.pos2 w
  · rename_i h; unfold out at h; exact (B.bl_le y w).1 (by simpa using h)
theorem ins_lt (w : Nat) (l : List Nat) (hl : ∀ x ∈ l, x < 18446744073709551616) : ∀ x ∈ ins w l, x < 18446744073709551616 := by
  intro x hx
  obtain ⟨y, hy, rfl⟩ := List.mem_map.1 hx
  have := hl y hy
  split <;> omega
theorem ins_get (w : Nat) (l : List Nat) (k : Nat) (h : k < l.length) : (ins w l).getD k 0 = if out w (l.getD k 0) then 0 else l.getD k 0 := by
  simp [ins, List.getD, List.getElem?_eq_getElem h]
theorem ins_take (w : Nat) (l : List Nat) (k : Nat) (h : k < l.length) : ins w (l.take (k + 1)) = ins w (l.take k) ++ [if out w (l.getD k 0) then 0 else l.getD k 0] := by
  have e : l.take (k + 1) = l.take k ++ [l.getD k 0] := by
    rw [List.take_succ_eq_append_getElem h]; simp [List.getD, List.getElem?_eq_getElem h]
  rw [e]; simp [ins]
/-- what stands behind -/
def tail (w k : Nat) : List Nat → List UInt8
  | [] => []
  | x :: t => (if out w x then UInt8.ofNat k :: V.enc x else []) ++ tail w (k + 1) t
theorem tail_snoc (w k : Nat) (l : List Nat) (x : Nat) : tail w k (l ++ [x]) = tail w k l ++ (if out w x then UInt8.ofNat (k + l.length) :: V.enc x else []) := by
  induction l generalizing k with
  | nil => simp [tail]
  | cons y t ih =>
    simp only [List.cons_append, tail, ih, List.length_cons, List.append_assoc]
    rw [show k + 1 + t.length = k + (t.length + 1) by omega]
theorem tail_take (w : Nat) (l : List Nat) (k : Nat) (h : k < l.length) : tail w 0 (l.take (k + 1)) = tail w 0 (l.take k) ++ (if out w (l.getD k 0) then UInt8.ofNat k :: V.enc (l.getD k 0) else []) := by
  have e : l.take (k + 1) = l.take k ++ [l.getD k 0] := by
    rw [List.take_succ_eq_append_getElem h]; simp [List.getD, List.getElem?_eq_getElem h]
  rw [e, tail_snoc, List.length_take, Nat.zero_add, Nat.min_eq_left (by omega)]
theorem tail_length (w k : Nat) (l : List Nat) : (tail w k l).length = extra w l := by
  induction l generalizing k with
  | nil => rfl
  | cons x t ih =>
    simp only [tail, extra, List.length_append, ih]
    split
    · rw [List.length_cons, V.enc_length]; omega
    · simp
/-- the bytes of one that stands out -/
def one (m : List Nat) (a : Nat) : List UInt8 := UInt8.ofNat a :: V.enc (m.getD a 0)
theorem tail_eq (w : Nat) (d t : List Nat) : (plc (out w) d.length t).flatMap (one (d ++ t)) = tail w d.length t := by
  induction t generalizing d with
  | nil => rfl
  | cons x t ih =>
    have h := ih (d ++ [x])
    rw [List.length_append, List.length_singleton, List.append_assoc, List.singleton_append] at h
    have hg : (d ++ x :: t).getD d.length 0 = x := by simp [List.getD]
    simp only [plc, tail]
    split
    · rw [List.flatMap_cons, h]; unfold one; rw [hg]
    · rw [h]; rfl
theorem tail_all (w : Nat) (l : List Nat) : (plc (out w) 0 l).flatMap (one l) = tail w 0 l := tail_eq w [] l
/-- with these places set to nought -/
def zer (m : List Nat) (ps : List Nat) : List Nat := (List.range m.length).map fun i => if i ∈ ps then 0 else m.getD i 0
theorem zer_length (m ps : List Nat) : (zer m ps).length = m.length := by simp [zer]
theorem zer_get (m ps : List Nat) (i : Nat) (h : i < m.length) : (zer m ps).getD i 0 = if i ∈ ps then 0 else m.getD i 0 := by
  simp [zer, List.getD, List.getElem?_range h]
theorem ext_getD (a b : List Nat) (hl : a.length = b.length) (h : ∀ i, i < a.length → a.getD i 0 = b.getD i 0) : a = b := by
  apply List.ext_getElem hl
  intro i h1 h2
  have := h i h1
  simpa [List.getD, List.getElem?_eq_getElem h1, List.getElem?_eq_getElem h2] using this
theorem zer_nil (m : List Nat) : zer m [] = m := ext_getD _ _ (zer_length _ _) fun i h => by rw [zer_length] at h; rw [zer_get m [] i h]; simp
theorem zer_snoc (m ps : List Nat) (a : Nat) : (zer m ps).set a 0 = zer m (ps ++ [a]) := by
  refine ext_getD _ _ (by simp [zer_length]) fun i h => ?_
  have hm : i < m.length := by simpa [zer_length] using h
  rw [zer_get m _ i hm]
  have hz := zer_get m ps i hm
  by_cases e : a = i
  · subst e; simp [List.getD, zer_length, hm]
  · have hs : ((zer m ps).set a 0).getD i 0 = (zer m ps).getD i 0 := by simp [List.getD, List.getElem?_set_ne e]
    rw [hs, hz]
    have e2 : ¬ i = a := fun h => e h.symm
    simp [e2]
theorem zer_all (w : Nat) (m : List Nat) : zer m (plc (out w) 0 m) = ins w m := by
  refine ext_getD _ _ (by rw [zer_length, ins_length]) fun i h => ?_
  rw [zer_length] at h
  rw [zer_get m _ i h, ins_get w m i h]
  have := plc_mem (out w) 0 m i h
  rw [Nat.zero_add] at this
  by_cases hp : out w (m.getD i 0) = true
  · rw [if_pos (this.2 hp), if_pos hp]
  · rw [if_neg (fun hh => hp (this.1 hh)), if_neg hp]

def bytesM (w b : Nat) (m : List Nat) : List UInt8 := V.enc b ++ [UInt8.ofNat w, UInt8.ofNat (plc (out w) 0 m).length] ++ H.pkd w (ins w m) ++ tail w 0 m
def bytes (l : List Nat) : List UInt8 := bytesM (best (more l)) (base l) (more l)
theorem bytes_length (l : List Nat) : (bytes l).length = V.sz (base l) + 2 + cost (best (more l)) (more l) := by
  unfold bytes bytesM
  rw [cost_eq]
  simp only [List.length_append, V.enc_length, H.pkd_length, ins_length, tail_length, List.length_cons, List.length_nil]
  omega

/-- what stands behind is put at its places -/
def mend (w : Nat) : Nat → List Nat → List UInt8 → Nat → List Nat × Nat
  | 0, m, [], _ => (m, 0)
  | 0, m, _ :: _, _ => (m, 1)
  | n + 1, m, [], _ => (m, 5)
  | n + 1, m, c :: t, nx =>
    if m.length ≤ c.toNat then (m, 3) else if c.toNat < nx then (m, 4) else if m.getD c.toNat 0 ≠ 0 then (m, 1) else
    if (V.rd t).2.2 ≠ 0 then (m, (V.rd t).2.2) else if B.bl (V.rd t).1 ≤ w then (m, 1) else
    mend w n (m.set c.toNat (V.rd t).1) (t.drop (V.rd t).2.1) (c.toNat + 1)
theorem mend_length (w n : Nat) (m : List Nat) (s : List UInt8) (nx : Nat) : (mend w n m s nx).1.length = m.length := by
  induction n generalizing m s nx with
  | zero => cases s <;> rfl
  | succ n ih =>
    cases s with
    | nil => rfl
    | cons c t =>
      unfold mend
      split; · rfl
      split; · rfl
      split; · rfl
      split; · rfl
      split; · rfl
      rw [ih, List.length_set]
theorem mend_tail (w : Nat) (t : List Nat) (ht : ∀ x ∈ t, x < 18446744073709551616) (d : List Nat) (nx : Nat) (hn : nx ≤ d.length) (hd : d.length + t.length ≤ 256) :
    mend w (plc (out w) d.length t).length (d ++ ins w t) (tail w d.length t) nx = (d ++ t, 0) := by
  induction t generalizing d nx with
  | nil => simp [plc, ins, tail, mend]
  | cons x t ih =>
    have hx := ht x (by simp)
    have h := fun v nx h2 => ih (fun y hy => ht y (by simp [hy])) (d ++ [v]) nx h2 (by simp at hd ⊢; omega)
    have hl : ∀ v, (d ++ [v]).length = d.length + 1 := by intro v; simp
    have ha : ∀ v (r : List Nat), d ++ [v] ++ r = d ++ v :: r := by intro v r; simp
    simp only [hl, ha] at h
    have hi : ins w (x :: t) = (if out w x then 0 else x) :: ins w t := rfl
    rw [hi]
    simp only [plc, tail]
    by_cases ho : out w x = true
    · simp only [ho, if_true, List.length_cons, List.cons_append]
      have hc : (UInt8.ofNat d.length).toNat = d.length := by simp at hd ⊢; omega
      have hb : ¬ B.bl x ≤ w := by unfold out at ho; simpa using ho
      have hr := V.rd_enc x hx (tail w (d.length + 1) t)
      unfold mend
      rw [hc, hr]
      have e0 : (d ++ 0 :: ins w t).getD d.length 0 = 0 := by simp [List.getD]
      have e1 : (d ++ 0 :: ins w t).set d.length x = d ++ x :: ins w t := by simp
      have e2 : (V.enc x ++ tail w (d.length + 1) t).drop (V.sz x) = tail w (d.length + 1) t := by rw [← V.enc_length x]; simp
      rw [if_neg (by simp), if_neg (by omega), if_neg (by rw [e0]; simp)]
      simp only
      rw [if_neg (by simp), if_neg hb, e1, e2]
      exact h x (d.length + 1) (Nat.le_refl _)
    · rw [if_neg ho, if_neg ho, if_neg ho, List.nil_append]
      exact h x nx (by omega)

/-- base and head of a text, and what is packed -/
def head (s : List UInt8) (many : Nat) : Nat × Nat × List Nat × List UInt8 × Nat × Nat :=   -- base, width, packed, what is behind, how many stand out, error
  if (V.rd s).2.2 ≠ 0 then (0, 0, [], [], 0, (V.rd s).2.2) else
  let t := s.drop (V.rd s).2.1
  if t.length < 2 then (0, 0, [], [], 0, 5) else
  let w := (t.getD 0 0).toNat
  if 64 < w then (0, 0, [], [], 0, 3) else
  let u := t.drop 2
  let z := B.sz (many * w)
  if u.length < z then (0, 0, [], [], 0, 5) else
  let d := u.take z
  if B.leN d / 2 ^ (many * w) ≠ 0 then (0, 0, [], [], 0, 1) else
  ((V.rd s).1, w, B.dg w many (B.leN d), u.drop z, (t.getD 1 0).toNat, 0)
def fin (b : Nat) (m : List Nat × Nat) : List Nat × Nat :=
  if m.2 ≠ 0 then ([], m.2) else if m.1.any (fun n => decide (18446744073709551615 - b < n)) then ([], 8) else (m.1.map fun n => n + b, 0)
def readN (s : List UInt8) (many : Nat) : List Nat × Nat :=
  let h := head s many
  if h.2.2.2.2.2 ≠ 0 then ([], h.2.2.2.2.2) else fin h.1 (mend h.2.1 h.2.2.2.2.1 h.2.2.1 h.2.2.2.1 0)
def read (s : List UInt8) (many : Int) : List Nat × Nat :=
  if many < 0 then ([], 3) else if 64 < many then ([], 2) else readN s many.toNat

theorem read_back (l : List Nat) (hx : ∀ x ∈ l, x < 18446744073709551616) (hl : l.length ≤ 64) : read (bytes l) l.length = (l, 0) := by
  unfold read
  rw [if_neg (by omega), if_neg (by omega), Int.toNat_natCast]
  have hb := base_lt l hx
  have hml := more_length l
  have hmx := more_lt l hx
  have hw := best_le (more l)
  have hrd := V.rd_enc (base l) hb ([UInt8.ofNat (best (more l)), UInt8.ofNat (plc (out (best (more l))) 0 (more l)).length] ++ (H.pkd (best (more l)) (ins (best (more l)) (more l)) ++ tail (best (more l)) 0 (more l)))
  have hpl := plc_len (out (best (more l))) 0 (more l)
  have hmt := mend_tail (best (more l)) (more l) hmx [] 0 (Nat.le_refl _) (by simp; omega)
  have hfl := ins_fit (best (more l)) (more l)
  have hil := ins_length (best (more l)) (more l)
  have hk := H.pkd_length (best (more l)) (ins (best (more l)) (more l))
  have hmm : (more l).map (fun n => n + base l) = l := by
    unfold more
    rw [List.map_map]
    conv => rhs; rw [← List.map_id l]
    apply List.map_congr_left
    intro x h
    have := base_le l x h
    show x - base l + base l = x
    omega
  have hany : (more l).any (fun n => decide (18446744073709551615 - base l < n)) = false := by
    rw [List.any_eq_false]
    intro y hy
    obtain ⟨x, h, rfl⟩ := List.mem_map.1 hy
    have := base_le l x h
    have := hx x h
    simp; omega
  unfold readN head bytes bytesM
  simp only [List.length_nil, List.nil_append] at hmt
  generalize best (more l) = w at *
  generalize base l = b at *
  generalize more l = m at *
  have e0 : V.enc b ++ [UInt8.ofNat w, UInt8.ofNat (plc (out w) 0 m).length] ++ H.pkd w (ins w m) ++ tail w 0 m = V.enc b ++ ([UInt8.ofNat w, UInt8.ofNat (plc (out w) 0 m).length] ++ (H.pkd w (ins w m) ++ tail w 0 m)) := by simp
  rw [e0, hrd]
  have e1 : (V.enc b ++ ([UInt8.ofNat w, UInt8.ofNat (plc (out w) 0 m).length] ++ (H.pkd w (ins w m) ++ tail w 0 m))).drop (V.sz b) = [UInt8.ofNat w, UInt8.ofNat (plc (out w) 0 m).length] ++ (H.pkd w (ins w m) ++ tail w 0 m) := by rw [← V.enc_length b]; simp
  simp only [e1]
  have e2 : (UInt8.ofNat w).toNat = w := by simp; omega
  have e3 : (UInt8.ofNat (plc (out w) 0 m).length).toNat = (plc (out w) 0 m).length := by simp; omega
  have g0 : ([UInt8.ofNat w, UInt8.ofNat (plc (out w) 0 m).length] ++ (H.pkd w (ins w m) ++ tail w 0 m)).getD 0 0 = UInt8.ofNat w := rfl
  have g1 : ([UInt8.ofNat w, UInt8.ofNat (plc (out w) 0 m).length] ++ (H.pkd w (ins w m) ++ tail w 0 m)).getD 1 0 = UInt8.ofNat (plc (out w) 0 m).length := rfl
  have g2 : ([UInt8.ofNat w, UInt8.ofNat (plc (out w) 0 m).length] ++ (H.pkd w (ins w m) ++ tail w 0 m)).drop 2 = H.pkd w (ins w m) ++ tail w 0 m := rfl
  rw [g0, g1, g2, e2, e3]
  have hml' : l.length = m.length := hml.symm
  rw [hml']
  have e4 : (H.pkd w (ins w m) ++ tail w 0 m).take (B.sz (m.length * w)) = H.pkd w (ins w m) := by rw [← hil, ← hk]; simp
  have e5 : (H.pkd w (ins w m) ++ tail w 0 m).drop (B.sz (m.length * w)) = tail w 0 m := by rw [← hil, ← hk]; simp
  rw [e4, e5]
  have hlt := B.pk_lt w (ins w m) hfl
  have hle : B.leN (H.pkd w (ins w m)) = B.pk w (ins w m) := by
    unfold H.pkd
    rw [B.leN_le]
    refine Nat.mod_eq_of_lt (Nat.lt_of_lt_of_le hlt ?_)
    rw [B.two8]
    exact Nat.pow_le_pow_right (by omega) (by unfold B.sz; rw [Nat.mul_comm w]; omega)
  rw [hle]
  have hdv : B.pk w (ins w m) / 2 ^ (m.length * w) = 0 := by rw [Nat.div_eq_of_lt]; rw [Nat.mul_comm, ← hil]; exact hlt
  have hdg := B.dg_pk w (ins w m) hfl
  rw [hil] at hdg
  rw [hdv, hdg]
  have i1 : ¬ ((0 : Nat) ≠ 0) := by simp
  have i2 : ¬ ([UInt8.ofNat w, UInt8.ofNat (plc (out w) 0 m).length] ++ (H.pkd w (ins w m) ++ tail w 0 m)).length < 2 := by simp
  have i3 : ¬ 64 < w := by omega
  have i4 : ¬ (H.pkd w (ins w m) ++ tail w 0 m).length < B.sz (m.length * w) := by rw [List.length_append, hk, hil]; omega
  simp only [if_neg i1, if_neg i2, if_neg i3, if_neg i4, hmt]
  unfold fin
  simp only [hany, hmm]
  simp
end Go.Proofs.Ytpjmpbpbfjemdaa.P
