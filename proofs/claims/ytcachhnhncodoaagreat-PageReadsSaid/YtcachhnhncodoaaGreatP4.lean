/- PPlain, PW0, PW1, PW2, PR1, PR2, PLen, KR1, TStr, TBase, TPlain, TMany, TW1, TW2, TLess. -/
import Derived.Laws.OwnMore
import Derived.RangeFuncBox
import Derived.Sort.KeysCollected
import Derived.Sort.Walk0
import Derived.WalkKit
import Derived.Lib.SlicesCompact
import Derived.BigQuiet
import Derived.Test.YtcachhnhncodoaaGreatP3
namespace Go.Proofs.YtcachhnhncodoaaGreat.P
set_option linter.unusedVariables false
def mn (m : Nat) : List Nat → Nat
  | [] => m
  | x :: t => mn (min m x) t
def base : List Nat → Nat
  | [] => 0
  | x :: t => mn x t
theorem mn_start (m : Nat) (l : List Nat) : mn m l ≤ m := by
  induction l generalizing m with
  | nil => exact Nat.le_refl _
  | cons x t ih => exact Nat.le_trans (ih _) (Nat.min_le_left _ _)
theorem mn_le (m : Nat) (l : List Nat) : ∀ x ∈ l, mn m l ≤ x := by
  induction l generalizing m with
  | nil => intro x hx; simp at hx
  | cons y t ih =>
    intro x hx
    rcases List.mem_cons.1 hx with rfl | hx
    · exact Nat.le_trans (mn_start (min m _) t) (Nat.min_le_right m _)
    · exact ih _ x hx
theorem mn_snoc (m : Nat) (l : List Nat) (x : Nat) : mn m (l ++ [x]) = min (mn m l) x := by
  induction l generalizing m with
  | nil => rfl
  | cons y t ih => exact ih _
theorem mn_take (m : Nat) (l : List Nat) (k : Nat) (h : k < l.length) : mn m (l.take (k + 1)) = min (mn m (l.take k)) (l.getD k 0) := by
  rw [List.take_succ_eq_append_getElem h, mn_snoc]; simp [List.getD, List.getElem?_eq_getElem h]
theorem mn_self (x : Nat) (t : List Nat) : mn x (x :: t) = mn x t := by show mn (min x x) t = _; rw [Nat.min_self]
theorem base_le (l : List Nat) : ∀ x ∈ l, base l ≤ x := by
  cases l with
  | nil => intro x hx; simp at hx
  | cons y t =>
    intro x hx
    rcases List.mem_cons.1 hx with rfl | hx
    · exact mn_start _ _
    · exact mn_le _ _ x hx
theorem base_lt (l : List Nat) (hl : ∀ x ∈ l, x < 18446744073709551616) : base l < 18446744073709551616 := by
  cases l with
  | nil => decide
  | cons y t => have := mn_start y t; have := hl y (by simp); show mn y t < _; omega
def more (l : List Nat) : List Nat := l.map fun x => x - base l
theorem more_length (l : List Nat) : (more l).length = l.length := by simp [more]
theorem more_lt (l : List Nat) (hl : ∀ x ∈ l, x < 18446744073709551616) : ∀ y ∈ more l, y < 18446744073709551616 := by
  intro y hy
  obtain ⟨x, hx, rfl⟩ := List.mem_map.1 hy
  have := hl x hx; omega
theorem more_get (l : List Nat) (k : Nat) (h : k < l.length) : (more l).getD k 0 = l.getD k 0 - base l := by
  simp [more, List.getD, List.getElem?_eq_getElem h]
def out (w x : Nat) : Bool := !decide (B.bl x ≤ w)
def plc (p : Nat → Bool) (k : Nat) : List Nat → List Nat
  | [] => []
  | x :: t => if p x then k :: plc p (k + 1) t else plc p (k + 1) t
theorem plc_snoc (p : Nat → Bool) (k : Nat) (l : List Nat) (x : Nat) : plc p k (l ++ [x]) = plc p k l ++ (if p x then [k + l.length] else []) := by
  induction l generalizing k with
  | nil => simp [plc]
  | cons y t ih =>
    simp only [List.cons_append, plc, ih, List.length_cons]
    rw [show k + 1 + t.length = k + (t.length + 1) by omega]
    split <;> simp
theorem plc_take (p : Nat → Bool) (l : List Nat) (k : Nat) (h : k < l.length) : plc p 0 (l.take (k + 1)) = plc p 0 (l.take k) ++ (if p (l.getD k 0) then [k] else []) := by
  have e : l.take (k + 1) = l.take k ++ [l.getD k 0] := by
    rw [List.take_succ_eq_append_getElem h]; simp [List.getD, List.getElem?_eq_getElem h]
  rw [e, plc_snoc, List.length_take, Nat.zero_add, Nat.min_eq_left (by omega)]
theorem plc_lt (p : Nat → Bool) (k : Nat) (l : List Nat) : ∀ a ∈ plc p k l, k ≤ a ∧ a < k + l.length := by
  induction l generalizing k with
  | nil => intro a ha; simp [plc] at ha
  | cons x t ih =>
    intro a ha
    simp only [plc] at ha
    split at ha
    · rcases List.mem_cons.1 ha with rfl | ha
      · simp
      · have := ih (k + 1) a ha; simp; omega
    · have := ih (k + 1) a ha; simp; omega
theorem plc_len (p : Nat → Bool) (k : Nat) (l : List Nat) : (plc p k l).length ≤ l.length := by
  induction l generalizing k with
  | nil => simp [plc]
  | cons x t ih => simp only [plc]; have := ih (k + 1); split <;> simp <;> omega
theorem plc_nodup (p : Nat → Bool) (k : Nat) (l : List Nat) : (plc p k l).Nodup := by
  induction l generalizing k with
  | nil => simp [plc]
  | cons x t ih =>
    simp only [plc]
    split
    · refine List.nodup_cons.2 ⟨fun h => ?_, ih _⟩
      have := plc_lt p (k + 1) t k h; omega
    · exact ih _
theorem plc_mem (p : Nat → Bool) (k : Nat) (l : List Nat) (i : Nat) (h : i < l.length) : k + i ∈ plc p k l ↔ p (l.getD i 0) = true := by
  induction l generalizing k i with
  | nil => simp at h
  | cons x t ih =>
    simp only [plc]
    cases i with
    | zero =>
      simp only [Nat.add_zero, List.getD_cons_zero]
      by_cases hp : p x = true
      · simp [hp]
      · rw [if_neg hp]
        refine ⟨fun h => ?_, fun h => absurd h hp⟩
        have := plc_lt p (k + 1) t k h; omega
    | succ i =>
      have := ih (k + 1) i (by simpa using h)
      rw [show k + 1 + i = k + (i + 1) by omega] at this
      simp only [List.getD_cons_succ]
      rw [← this]
      split
      · simp
      · exact Iff.rfl
def cost (w : Nat) (l : List Nat) : Nat := B.sz (l.length * w) + ((plc (out w) 0 l).map fun a => 1 + V.sz (l.getD a 0)).sum
def extra (w : Nat) : List Nat → Nat
  | [] => 0
  | x :: t => (if out w x then 1 + V.sz x else 0) + extra w t
theorem extra_snoc (w : Nat) (l : List Nat) (x : Nat) : extra w (l ++ [x]) = extra w l + (if out w x then 1 + V.sz x else 0) := by
  induction l with
  | nil => simp [extra]
  | cons y t ih => simp only [List.cons_append, extra, ih]; omega
theorem extra_take (w : Nat) (l : List Nat) (k : Nat) (h : k < l.length) : extra w (l.take (k + 1)) = extra w (l.take k) + (if out w (l.getD k 0) then 1 + V.sz (l.getD k 0) else 0) := by
  have e : l.take (k + 1) = l.take k ++ [l.getD k 0] := by
    rw [List.take_succ_eq_append_getElem h]; simp [List.getD, List.getElem?_eq_getElem h]
  rw [e, extra_snoc]
theorem extra_le (w : Nat) (l : List Nat) : extra w l ≤ 10 * l.length := by
  induction l with
  | nil => simp [extra]
  | cons x t ih => have := V.sz_le x; simp only [extra, List.length_cons]; split <;> omega
theorem plc_sum (w : Nat) (d t : List Nat) : ((plc (out w) d.length t).map fun a => 1 + V.sz ((d ++ t).getD a 0)).sum = extra w t := by
  induction t generalizing d with
  | nil => rfl
  | cons x t ih =>
    have h := ih (d ++ [x])
    rw [List.length_append, List.length_singleton, List.append_assoc, List.singleton_append] at h
    have hg : (d ++ x :: t).getD d.length 0 = x := by simp [List.getD]
    simp only [plc, extra]
    split
    · rw [List.map_cons, List.sum_cons, h, hg]
    · rw [h]; omega
theorem cost_eq (w : Nat) (l : List Nat) : cost w l = B.sz (l.length * w) + extra w l := by
  unfold cost
  have := plc_sum w [] l
  simp only [List.length_nil, List.nil_append] at this
  rw [this]
def Best (f : Nat → Nat) (n w : Nat) : Prop := w ≤ n ∧ (∀ k, k ≤ n → f w ≤ f k) ∧ ∀ k, k < w → f w < f k
theorem best_one (f : Nat → Nat) (n u v : Nat) (hu : Best f n u) (hv : Best f n v) : u = v := by
  rcases Nat.lt_trichotomy u v with h | h | h
  · have := hv.2.2 u h; have := hu.2.1 v hv.1; omega
  · exact h
  · have := hu.2.2 v h; have := hv.2.1 u hu.1; omega
def upB (f : Nat → Nat) : Nat → Nat
  | 0 => 0
  | n + 1 => if f (n + 1) < f (upB f n) then n + 1 else upB f n
theorem upB_best (f : Nat → Nat) (n : Nat) : Best f n (upB f n) := by
  induction n with
  | zero => exact ⟨Nat.le_refl _, fun k hk => by obtain rfl : k = 0 := by omega
                                                 exact Nat.le_refl _, fun k hk => absurd hk (by simp [upB])⟩
  | succ n ih =>
    obtain ⟨h1, h2, h3⟩ := ih
    unfold upB
    split
    · rename_i h
      refine ⟨Nat.le_refl _, fun k hk => ?_, fun k hk => ?_⟩
      · by_cases hh : k = n + 1
        · rw [hh]; exact Nat.le_refl _
        · have := h2 k (by omega); omega
      · have := h2 k (by omega); omega
    · rename_i h
      refine ⟨by omega, fun k hk => ?_, h3⟩
      by_cases hh : k = n + 1
      · rw [hh]; omega
      · exact h2 k (by omega)
def dnB (f : Nat → Nat) (w : Nat) : Nat → Nat
  | 0 => w
  | k + 1 => dnB f (if f k ≤ f w then k else w) k
theorem dnB_best (f : Nat → Nat) (n w k : Nat) (h1 : k ≤ w) (h2 : w ≤ n) (h3 : ∀ j, k ≤ j → j ≤ n → f w ≤ f j) (h4 : ∀ j, k ≤ j → j < w → f w < f j) : Best f n (dnB f w k) := by
  induction k generalizing w with
  | zero => exact ⟨h2, fun j hj => h3 j (by omega) hj, fun j hj => h4 j (by omega) hj⟩
  | succ k ih =>
    unfold dnB
    split
    · rename_i h
      refine ih k (Nat.le_refl _) (by omega) (fun j hj hn => ?_) (fun j hj hk => absurd hk (by omega))
      by_cases e : j = k
      · rw [e]; exact Nat.le_refl _
      · have := h3 j (by omega) hn; omega
    · rename_i h
      refine ih w (by omega) h2 (fun j hj hn => ?_) (fun j hj hw => ?_)
      · by_cases e : j = k
        · rw [e]; omega
        · exact h3 j (by omega) hn
      · by_cases e : j = k
        · rw [e]; omega
        · exact h4 j (by omega) hw
theorem dnB_up (f : Nat → Nat) (n : Nat) : dnB f n n = upB f n :=
  best_one f n _ _ (dnB_best f n n n (Nat.le_refl _) (Nat.le_refl _) (fun j h1 h2 => by rw [show j = n by omega]; exact Nat.le_refl _) (fun j h1 h2 => absurd h2 (by omega))) (upB_best f n)
def best (l : List Nat) : Nat := upB (fun w => cost w l) 64
theorem best_le (l : List Nat) : best l ≤ 64 := (upB_best _ 64).1
def ins (w : Nat) (l : List Nat) : List Nat := l.map fun x => if out w x then 0 else x
theorem ins_length (w : Nat) (l : List Nat) : (ins w l).length = l.length := by simp [ins]
theorem ins_fit (w : Nat) (l : List Nat) : ∀ x ∈ ins w l, x < 2 ^ w := by
  intro x hx
  obtain ⟨y, hy, rfl⟩ := List.mem_map.1 hx
  split
  · exact B.pos2 w
  · rename_i h; unfold out at h; exact (B.bl_le y w).1 (by simpa using h)
theorem ins_lt (w : Nat) (l : List Nat) (hl : ∀ x ∈ l, x < 18446744073709551616) : ∀ x ∈ ins w l, x < 18446744073709551616 := by
  intro x hx
  obtain ⟨y, hy, rfl⟩ := List.mem_map.1 hx
  have := hl y hy
  split <;> omega
theorem ins_get (w : Nat) (l : List Nat) (k : Nat) (h : k < l.length) : (ins w l).getD k 0 = if out w (l.getD k 0) then 0 else l.getD k 0 := by
  simp [ins, List.getD, List.getElem?_eq_getElem h]
theorem ins_take (w : Nat) (l : List Nat) (k : Nat) (h : k < l.length) : ins w (l.take (k + 1)) = ins w (l.take k) ++ [if out w (l.getD k 0) then 0 else l.getD k 0] := by
  have e : l.take (k + 1) = l.take k ++ [l.getD k 0] := by
    rw [List.take_succ_eq_append_getElem h]; simp [List.getD, List.getElem?_eq_getElem h]
  rw [e]; simp [ins]
def tail (w k : Nat) : List Nat → List UInt8
  | [] => []
  | x :: t => (if out w x then UInt8.ofNat k :: V.enc x else []) ++ tail w (k + 1) t
theorem tail_snoc (w k : Nat) (l : List Nat) (x : Nat) : tail w k (l ++ [x]) = tail w k l ++ (if out w x then UInt8.ofNat (k + l.length) :: V.enc x else []) := by
  induction l generalizing k with
  | nil => simp [tail]
  | cons y t ih =>
    simp only [List.cons_append, tail, ih, List.length_cons, List.append_assoc]
    rw [show k + 1 + t.length = k + (t.length + 1) by omega]
theorem tail_take (w : Nat) (l : List Nat) (k : Nat) (h : k < l.length) : tail w 0 (l.take (k + 1)) = tail w 0 (l.take k) ++ (if out w (l.getD k 0) then UInt8.ofNat k :: V.enc (l.getD k 0) else []) := by
  have e : l.take (k + 1) = l.take k ++ [l.getD k 0] := by
    rw [List.take_succ_eq_append_getElem h]; simp [List.getD, List.getElem?_eq_getElem h]
  rw [e, tail_snoc, List.length_take, Nat.zero_add, Nat.min_eq_left (by omega)]
theorem tail_length (w k : Nat) (l : List Nat) : (tail w k l).length = extra w l := by
  induction l generalizing k with
  | nil => rfl
  | cons x t ih =>
    simp only [tail, extra, List.length_append, ih]
    split
    · rw [List.length_cons, V.enc_length]; omega
    · simp
def one (m : List Nat) (a : Nat) : List UInt8 := UInt8.ofNat a :: V.enc (m.getD a 0)
theorem tail_eq (w : Nat) (d t : List Nat) : (plc (out w) d.length t).flatMap (one (d ++ t)) = tail w d.length t := by
  induction t generalizing d with
  | nil => rfl
  | cons x t ih =>
    have h := ih (d ++ [x])
    rw [List.length_append, List.length_singleton, List.append_assoc, List.singleton_append] at h
    have hg : (d ++ x :: t).getD d.length 0 = x := by simp [List.getD]
    simp only [plc, tail]
    split
    · rw [List.flatMap_cons, h]; unfold one; rw [hg]
    · rw [h]; rfl
theorem tail_all (w : Nat) (l : List Nat) : (plc (out w) 0 l).flatMap (one l) = tail w 0 l := tail_eq w [] l
def zer (m : List Nat) (ps : List Nat) : List Nat := (List.range m.length).map fun i => if i ∈ ps then 0 else m.getD i 0
theorem zer_length (m ps : List Nat) : (zer m ps).length = m.length := by simp [zer]
theorem zer_get (m ps : List Nat) (i : Nat) (h : i < m.length) : (zer m ps).getD i 0 = if i ∈ ps then 0 else m.getD i 0 := by
  simp [zer, List.getD, List.getElem?_range h]
theorem ext_getD (a b : List Nat) (hl : a.length = b.length) (h : ∀ i, i < a.length → a.getD i 0 = b.getD i 0) : a = b := by
  apply List.ext_getElem hl
  intro i h1 h2
  have := h i h1
  simpa [List.getD, List.getElem?_eq_getElem h1, List.getElem?_eq_getElem h2] using this
theorem zer_nil (m : List Nat) : zer m [] = m := ext_getD _ _ (zer_length _ _) fun i h => by rw [zer_length] at h; rw [zer_get m [] i h]; simp
theorem zer_snoc (m ps : List Nat) (a : Nat) : (zer m ps).set a 0 = zer m (ps ++ [a]) := by
  refine ext_getD _ _ (by simp [zer_length]) fun i h => ?_
  have hm : i < m.length := by simpa [zer_length] using h
  rw [zer_get m _ i hm]
  have hz := zer_get m ps i hm
  by_cases e : a = i
  · subst e; simp [List.getD, zer_length, hm]
  · have hs : ((zer m ps).set a 0).getD i 0 = (zer m ps).getD i 0 := by simp [List.getD, List.getElem?_set_ne e]
    rw [hs, hz]
    have e2 : ¬ i = a := fun h => e h.symm
    simp [e2]
theorem zer_all (w : Nat) (m : List Nat) : zer m (plc (out w) 0 m) = ins w m := by
  refine ext_getD _ _ (by rw [zer_length, ins_length]) fun i h => ?_
  rw [zer_length] at h
  rw [zer_get m _ i h, ins_get w m i h]
  have := plc_mem (out w) 0 m i h
  rw [Nat.zero_add] at this
  by_cases hp : out w (m.getD i 0) = true
  · rw [if_pos (this.2 hp), if_pos hp]
  · rw [if_neg (fun hh => hp (this.1 hh)), if_neg hp]
def bytesM (w b : Nat) (m : List Nat) : List UInt8 := V.enc b ++ [UInt8.ofNat w, UInt8.ofNat (plc (out w) 0 m).length] ++ H.pkd w (ins w m) ++ tail w 0 m
def bytes (l : List Nat) : List UInt8 := bytesM (best (more l)) (base l) (more l)
theorem bytes_length (l : List Nat) : (bytes l).length = V.sz (base l) + 2 + cost (best (more l)) (more l) := by
  unfold bytes bytesM
  rw [cost_eq]
  simp only [List.length_append, V.enc_length, H.pkd_length, ins_length, tail_length, List.length_cons, List.length_nil]
  omega
def mend (w : Nat) : Nat → List Nat → List UInt8 → Nat → List Nat × Nat
  | 0, m, [], _ => (m, 0)
  | 0, m, _ :: _, _ => (m, 1)
  | n + 1, m, [], _ => (m, 5)
  | n + 1, m, c :: t, nx =>
    if m.length ≤ c.toNat then (m, 3) else if c.toNat < nx then (m, 4) else if m.getD c.toNat 0 ≠ 0 then (m, 1) else
    if (V.rd t).2.2 ≠ 0 then (m, (V.rd t).2.2) else if B.bl (V.rd t).1 ≤ w then (m, 1) else
    mend w n (m.set c.toNat (V.rd t).1) (t.drop (V.rd t).2.1) (c.toNat + 1)
theorem mend_length (w n : Nat) (m : List Nat) (s : List UInt8) (nx : Nat) : (mend w n m s nx).1.length = m.length := by
  induction n generalizing m s nx with
  | zero => cases s <;> rfl
  | succ n ih =>
    cases s with
    | nil => rfl
    | cons c t =>
      unfold mend
      split; · rfl
      split; · rfl
      split; · rfl
      split; · rfl
      split; · rfl
      rw [ih, List.length_set]
theorem mend_tail (w : Nat) (t : List Nat) (ht : ∀ x ∈ t, x < 18446744073709551616) (d : List Nat) (nx : Nat) (hn : nx ≤ d.length) (hd : d.length + t.length ≤ 256) :
    mend w (plc (out w) d.length t).length (d ++ ins w t) (tail w d.length t) nx = (d ++ t, 0) := by
  induction t generalizing d nx with
  | nil => simp [plc, ins, tail, mend]
  | cons x t ih =>
    have hx := ht x (by simp)
    have h := fun v nx h2 => ih (fun y hy => ht y (by simp [hy])) (d ++ [v]) nx h2 (by simp at hd ⊢; omega)
    have hl : ∀ v, (d ++ [v]).length = d.length + 1 := by intro v; simp
    have ha : ∀ v (r : List Nat), d ++ [v] ++ r = d ++ v :: r := by intro v r; simp
    simp only [hl, ha] at h
    have hi : ins w (x :: t) = (if out w x then 0 else x) :: ins w t := rfl
    rw [hi]
    simp only [plc, tail]
    by_cases ho : out w x = true
    · simp only [ho, if_true, List.length_cons, List.cons_append]
      have hc : (UInt8.ofNat d.length).toNat = d.length := by simp at hd ⊢; omega
      have hb : ¬ B.bl x ≤ w := by unfold out at ho; simpa using ho
      have hr := V.rd_enc x hx (tail w (d.length + 1) t)
      unfold mend
      rw [hc, hr]
      have e0 : (d ++ 0 :: ins w t).getD d.length 0 = 0 := by simp [List.getD]
      have e1 : (d ++ 0 :: ins w t).set d.length x = d ++ x :: ins w t := by simp
      have e2 : (V.enc x ++ tail w (d.length + 1) t).drop (V.sz x) = tail w (d.length + 1) t := by rw [← V.enc_length x]; simp
      rw [if_neg (by simp), if_neg (by omega), if_neg (by rw [e0]; simp)]
      simp only
      rw [if_neg (by simp), if_neg hb, e1, e2]
      exact h x (d.length + 1) (Nat.le_refl _)
    · rw [if_neg ho, if_neg ho, if_neg ho, List.nil_append]
      exact h x nx (by omega)
def head (s : List UInt8) (many : Nat) : Nat × Nat × List Nat × List UInt8 × Nat × Nat :=   -- base, width, packed, what is behind, how many stand out, error
  if (V.rd s).2.2 ≠ 0 then (0, 0, [], [], 0, (V.rd s).2.2) else
  let t := s.drop (V.rd s).2.1
  if t.length < 2 then (0, 0, [], [], 0, 5) else
  let w := (t.getD 0 0).toNat
  if 64 < w then (0, 0, [], [], 0, 3) else
  let u := t.drop 2
  let z := B.sz (many * w)
  if u.length < z then (0, 0, [], [], 0, 5) else
  let d := u.take z
  if B.leN d / 2 ^ (many * w) ≠ 0 then (0, 0, [], [], 0, 1) else
  ((V.rd s).1, w, B.dg w many (B.leN d), u.drop z, (t.getD 1 0).toNat, 0)
def fin (b : Nat) (m : List Nat × Nat) : List Nat × Nat :=
  if m.2 ≠ 0 then ([], m.2) else if m.1.any (fun n => decide (18446744073709551615 - b < n)) then ([], 8) else (m.1.map fun n => n + b, 0)
def readN (s : List UInt8) (many : Nat) : List Nat × Nat :=
  let h := head s many
  if h.2.2.2.2.2 ≠ 0 then ([], h.2.2.2.2.2) else fin h.1 (mend h.2.1 h.2.2.2.2.1 h.2.2.1 h.2.2.2.1 0)
def read (s : List UInt8) (many : Int) : List Nat × Nat :=
  if many < 0 then ([], 3) else if 64 < many then ([], 2) else readN s many.toNat
theorem read_back (l : List Nat) (hx : ∀ x ∈ l, x < 18446744073709551616) (hl : l.length ≤ 64) : read (bytes l) l.length = (l, 0) := by
  unfold read
  rw [if_neg (by omega), if_neg (by omega), Int.toNat_natCast]
  have hb := base_lt l hx
  have hml := more_length l
  have hmx := more_lt l hx
  have hw := best_le (more l)
  have hrd := V.rd_enc (base l) hb ([UInt8.ofNat (best (more l)), UInt8.ofNat (plc (out (best (more l))) 0 (more l)).length] ++ (H.pkd (best (more l)) (ins (best (more l)) (more l)) ++ tail (best (more l)) 0 (more l)))
  have hpl := plc_len (out (best (more l))) 0 (more l)
  have hmt := mend_tail (best (more l)) (more l) hmx [] 0 (Nat.le_refl _) (by simp; omega)
  have hfl := ins_fit (best (more l)) (more l)
  have hil := ins_length (best (more l)) (more l)
  have hk := H.pkd_length (best (more l)) (ins (best (more l)) (more l))
  have hmm : (more l).map (fun n => n + base l) = l := by
    unfold more
    rw [List.map_map]
    conv => rhs; rw [← List.map_id l]
    apply List.map_congr_left
    intro x h
    have := base_le l x h
    show x - base l + base l = x
    omega
  have hany : (more l).any (fun n => decide (18446744073709551615 - base l < n)) = false := by
    rw [List.any_eq_false]
    intro y hy
    obtain ⟨x, h, rfl⟩ := List.mem_map.1 hy
    have := base_le l x h
    have := hx x h
    simp; omega
  unfold readN head bytes bytesM
  simp only [List.length_nil, List.nil_append] at hmt
  generalize best (more l) = w at *
  generalize base l = b at *
  generalize more l = m at *
  have e0 : V.enc b ++ [UInt8.ofNat w, UInt8.ofNat (plc (out w) 0 m).length] ++ H.pkd w (ins w m) ++ tail w 0 m = V.enc b ++ ([UInt8.ofNat w, UInt8.ofNat (plc (out w) 0 m).length] ++ (H.pkd w (ins w m) ++ tail w 0 m)) := by simp
  rw [e0, hrd]
  have e1 : (V.enc b ++ ([UInt8.ofNat w, UInt8.ofNat (plc (out w) 0 m).length] ++ (H.pkd w (ins w m) ++ tail w 0 m))).drop (V.sz b) = [UInt8.ofNat w, UInt8.ofNat (plc (out w) 0 m).length] ++ (H.pkd w (ins w m) ++ tail w 0 m) := by rw [← V.enc_length b]; simp
  simp only [e1]
  have e2 : (UInt8.ofNat w).toNat = w := by simp; omega
  have e3 : (UInt8.ofNat (plc (out w) 0 m).length).toNat = (plc (out w) 0 m).length := by simp; omega
  have g0 : ([UInt8.ofNat w, UInt8.ofNat (plc (out w) 0 m).length] ++ (H.pkd w (ins w m) ++ tail w 0 m)).getD 0 0 = UInt8.ofNat w := rfl
  have g1 : ([UInt8.ofNat w, UInt8.ofNat (plc (out w) 0 m).length] ++ (H.pkd w (ins w m) ++ tail w 0 m)).getD 1 0 = UInt8.ofNat (plc (out w) 0 m).length := rfl
  have g2 : ([UInt8.ofNat w, UInt8.ofNat (plc (out w) 0 m).length] ++ (H.pkd w (ins w m) ++ tail w 0 m)).drop 2 = H.pkd w (ins w m) ++ tail w 0 m := rfl
  rw [g0, g1, g2, e2, e3]
  have hml' : l.length = m.length := hml.symm
  rw [hml']
  have e4 : (H.pkd w (ins w m) ++ tail w 0 m).take (B.sz (m.length * w)) = H.pkd w (ins w m) := by rw [← hil, ← hk]; simp
  have e5 : (H.pkd w (ins w m) ++ tail w 0 m).drop (B.sz (m.length * w)) = tail w 0 m := by rw [← hil, ← hk]; simp
  rw [e4, e5]
  have hlt := B.pk_lt w (ins w m) hfl
  have hle : B.leN (H.pkd w (ins w m)) = B.pk w (ins w m) := by
    unfold H.pkd
    rw [B.leN_le]
    refine Nat.mod_eq_of_lt (Nat.lt_of_lt_of_le hlt ?_)
    rw [B.two8]
    exact Nat.pow_le_pow_right (by omega) (by unfold B.sz; rw [Nat.mul_comm w]; omega)
  rw [hle]
  have hdv : B.pk w (ins w m) / 2 ^ (m.length * w) = 0 := by rw [Nat.div_eq_of_lt]; rw [Nat.mul_comm, ← hil]; exact hlt
  have hdg := B.dg_pk w (ins w m) hfl
  rw [hil] at hdg
  rw [hdv, hdg]
  have i1 : ¬ ((0 : Nat) ≠ 0) := by simp
  have i2 : ¬ ([UInt8.ofNat w, UInt8.ofNat (plc (out w) 0 m).length] ++ (H.pkd w (ins w m) ++ tail w 0 m)).length < 2 := by simp
  have i3 : ¬ 64 < w := by omega
  have i4 : ¬ (H.pkd w (ins w m) ++ tail w 0 m).length < B.sz (m.length * w) := by rw [List.length_append, hk, hil]; omega
  simp only [if_neg i1, if_neg i2, if_neg i3, if_neg i4, hmt]
  unfold fin
  simp only [hany, hmm]
  simp
end Go.Proofs.YtcachhnhncodoaaGreat.P
namespace Go.Proofs.YtcachhnhncodoaaGreat
open Go.RowKit
set_option linter.unusedVariables false
def iv (l : List Nat) : List Value := l.map fun x : Nat => Value.int .i64 (x : Int)
theorem info_i64 : (Tryz.prog.info? 3).map (fun i => (i.zero, i.size, i.bytes)) = some (some (.int .i64 0), 1, 8) := by kernel_rfl
def INums (w : World) (B : Nat) (a : Option Addr) (l : List Nat) : Prop :=
  l ≠ [] → ∃ b off, a = some ⟨b, off, none⟩ ∧ b < B ∧ ∀ i, i < l.length → w.cell? ⟨b, off + i, none⟩ = some (.int .i64 ((l.getD i 0 : Nat) : Int))
theorem INums.below {w w' : World} {B : Nat} {a : Option Addr} {l : List Nat} (h : INums w B a l) (hb : Below B w w') : INums w' B a l := by
  intro hl
  obtain ⟨b, off, e, hlt, hc⟩ := h hl
  exact ⟨b, off, e, hlt, fun i hi => by rw [hb.cell (p := ⟨b, off + i, none⟩) hlt]; exact hc i hi⟩
theorem INums.mono {w : World} {B B' : Nat} {a : Option Addr} {l : List Nat} (h : INums w B a l) (hB : B ≤ B') : INums w B' a l := by
  intro hl
  obtain ⟨b, off, e, hlt, hc⟩ := h hl
  exact ⟨b, off, e, by omega, hc⟩
theorem INums.nil (w : World) (B : Nat) (a : Option Addr) : INums w B a [] := fun h => absurd rfl h
theorem INums.next {w w' : World} {a : Option Addr} {l : List Nat} (h : INums w w.heap.size a l) (hb : Below w.heap.size w w') : INums w' w'.heap.size a l := (h.below hb).mono hb.size
def IRow (B : Nat) (xs : List Nat) (v : Value) (wr : World) : Prop := wr.ownsRow B 3 1 v xs.length (iv xs)
theorem iRow_nums {B : Nat} {xs : List Nat} {v : Value} {w : World} (h : IRow B xs v w) : ∃ a c, v = .slice a xs.length c ∧ INums w w.heap.size a xs := by
  unfold IRow at h
  rcases h.2 with ⟨rfl, h0⟩ | ⟨g, cap, cur, rfl, e2, e3, e4⟩
  · refine ⟨none, 0, by rw [h0], ?_⟩
    rw [List.eq_nil_of_length_eq_zero h0]; exact INums.nil _ _ _
  · refine ⟨some ⟨g, 0, none⟩, cap, rfl, fun _ => ⟨g, 0, rfl, lt_of_block e3, fun i hi => ?_⟩⟩
    rw [Nat.zero_add, h.cellAt i (by omega)]
    simp [iv, List.getElem?_eq_getElem hi]
theorem IRow.mono {B B' : Nat} {xs : List Nat} {v : Value} {w : World} (h : IRow B' xs v w) (hB : B ≤ B') : IRow B xs v w := by
  refine ⟨h.1, ?_⟩
  rcases h.2 with hn | ⟨g, cap, cur, e1, e2, e3⟩
  · exact Or.inl hn
  · exact Or.inr ⟨g, cap, cur, e1, by omega, e3⟩
theorem IRow.below {B : Nat} {xs : List Nat} {v : Value} {w w' : World} (h : IRow B xs v w) (hb : Below w.heap.size w w') : IRow B xs v w' := row_below h hb
theorem IRow.nums {B : Nat} {xs : List Nat} {a : Option Addr} {n c : Nat} {w : World} (h : IRow B xs (.slice a n c) w) : INums w w.heap.size a xs := by
  obtain ⟨a', c', e, hn⟩ := iRow_nums h
  injection e with e1 e2 e3
  rw [e1]; exact hn
theorem IRow.form {B : Nat} {xs : List Nat} {a : Option Addr} {n c : Nat} {w : World} (h : IRow B xs (.slice a n c) w) (hne : xs ≠ []) : ∃ g, a = some ⟨g, 0, none⟩ ∧ n = xs.length ∧ B ≤ g ∧ g < w.heap.size := by
  unfold IRow at h
  rcases h.2 with ⟨he, h0⟩ | ⟨g, cap, cur, he, e2, e3, e4⟩
  · exact absurd (List.eq_nil_of_length_eq_zero h0) hne
  · injection he with h1 h2 h3
    exact ⟨g, h1, h2, e2, lt_of_block e3⟩
theorem IRow.cell {B : Nat} {xs : List Nat} {g n c : Nat} {w : World} (h : IRow B xs (.slice (some ⟨g, 0, none⟩) n c) w) (i : Nat) (hi : i < xs.length) : w.cell? ⟨g, i, none⟩ = some (.int .i64 ((xs.getD i 0 : Nat) : Int)) := by
  obtain ⟨a', c', e, hn⟩ := iRow_nums h
  injection e with e1 e2 e3
  subst e2
  unfold IRow at h
  rw [h.cellAt i (by omega)]
  simp [iv, List.getElem?_eq_getElem hi]
theorem NumRow.keep {B : Nat} {xs : List Nat} {g n c : Nat} {w w' : World} (h : NumRow B xs (.slice (some ⟨g, 0, none⟩) n c) w) (hb : w'.heap[g]? = w.heap[g]?) : NumRow B xs (.slice (some ⟨g, 0, none⟩) n c) w' := by
  refine ⟨h.1, ?_⟩
  rcases h.2 with ⟨he, h0⟩ | ⟨g', cap, cur, he, e2, e3, e4⟩
  · cases he
  · injection he with h1 h2 h3
    injection h1 with h1
    injection h1 with h1
    subst h1
    exact Or.inr ⟨g, cap, cur, by rw [h2, h3], e2, hb.trans e3, e4⟩
theorem IRow.alloc_ {B : Nat} {xs : List Nat} {v : Value} {w : World} (h : IRow B xs v w) (o : Obj) : IRow B xs v (w.alloc o) := World.ownsRow.alloc h o
theorem wpList_append_onei {w : World} {ops : Array Oper} {rest : List Oper} {o : Oper} {a : Act} {Q : Exit → Act → World → Prop} (hgd : o.guard = none) (s x : Operand)
    (ho : o.op = .call { callee := .builtin .append, args := #[s, x], argTypes := #[165, 165] }) (base : Nat)
    (v : Value) (xs : List Nat) (hs : a.eval s = v) (hown : IRow base xs v w)
    (g : Nat) (y : Nat) (hx : a.eval x = .slice (some ⟨g, 0, none⟩) 1 1) (hc : w.cell? ⟨g, 0, none⟩ = some (.int .i64 (y : Int)))
    (hbytes : (xs.length + 1) * 8 ≤ 140737488355328) (hbase : base ≤ w.heap.size)
    (h : ∀ v' w', IRow base (xs ++ [y]) v' w' → Below base w w' → wpList Tryz.prog ops Q rest (a.put o.dst v') w') : wpList Tryz.prog ops Q (o :: rest) a w := by
  obtain ⟨i, hi, hz0, hz1, hz2⟩ := info_parts info_i64
  refine wpList_append_own w hgd s x 165 ho base 3 i (.int .i64 0) 1 8 Tryz.underlying165 hi hz0 hz1 hz2 rfl (by decide) v xs.length (iv xs) hs hown ⟨g, 0, none⟩ 1 1 [.int .i64 (y : Int)] hx rfl ?_ ?_ (by unfold maxLen; omega) hbytes hbase (fun v' w' h1 h2 _ => h v' w' ?_ ?_)
  · intro j u hj
    match j, hj with
    | 0, hj => simp at hj; subst hj; simpa [Addr.add] using hc
  · intro u hu; simp at hu; subst hu; rfl
  · unfold IRow; rw [List.length_append]; simpa [iv] using h1
  · exact (Below.refl base w).grown h2 hbase (fun k hk => (hown.lt k hk).1)
theorem NumRow.form {B : Nat} {xs : List Nat} {a : Option Addr} {n c : Nat} {w : World} (h : NumRow B xs (.slice a n c) w) (hne : xs ≠ []) : ∃ g, a = some ⟨g, 0, none⟩ ∧ n = xs.length ∧ B ≤ g ∧ g < w.heap.size := by
  unfold NumRow at h
  rcases h.2 with ⟨he, h0⟩ | ⟨g, cap, cur, he, e2, e3, e4⟩
  · exact absurd (List.eq_nil_of_length_eq_zero h0) hne
  · injection he with h1 h2 h3
    exact ⟨g, h1, h2, e2, lt_of_block e3⟩
theorem NumRow.len {B : Nat} {xs : List Nat} {a : Option Addr} {n c : Nat} {w : World} (h : NumRow B xs (.slice a n c) w) : n = xs.length := by
  obtain ⟨a', c', e, _⟩ := numRow_nums h
  injection e
theorem NumRow.cell {B : Nat} {xs : List Nat} {g n c : Nat} {w : World} (h : NumRow B xs (.slice (some ⟨g, 0, none⟩) n c) w) (i : Nat) (hi : i < xs.length) : w.cell? ⟨g, i, none⟩ = some (.int .u64 ((xs.getD i 0 : Nat) : Int)) := by
  obtain rfl := h.len
  unfold NumRow at h
  rw [h.cellAt i (by omega)]
  simp [nv, List.getElem?_eq_getElem hi]
theorem NumRow.free {B : Nat} {xs : List Nat} {g n c : Nat} {w : World} (h : NumRow B xs (.slice (some ⟨g, 0, none⟩) n c) w) (i : Nat) : w.frozen? ⟨g, i, none⟩ = false := by
  obtain rfl := h.len
  exact h.frozenAt i
theorem NumRow.put {B : Nat} {xs : List Nat} {g n c : Nat} {w : World} (h : NumRow B xs (.slice (some ⟨g, 0, none⟩) n c) w) (i x : Nat) : NumRow B (xs.set i x) (.slice (some ⟨g, 0, none⟩) n c) (w.setCell ⟨g, i, none⟩ (.int .u64 (x : Int))) := by
  obtain rfl := h.len
  unfold NumRow at *
  have := (h.stored i (.int .u64 (x : Int))).1
  rw [List.length_set]
  have e : nv (xs.set i x) = (nv xs).set i (.int .u64 (x : Int)) := by simp [nv, List.map_set]
  rw [e]; exact this
theorem NumRow.drew_ {B : Nat} {xs : List Nat} {v : Value} {w : World} (h : NumRow B xs v w) : NumRow B xs v w.drew := World.ownsRow.drew h
theorem NumRow.below {B : Nat} {xs : List Nat} {v : Value} {w w' : World} (h : NumRow B xs v w) (hb : Below w.heap.size w w') : NumRow B xs v w' := row_below h hb
def AllPostR (r : List Nat × Nat) (w : World) (e : Ending) (w' : World) : Prop :=
  ∃ a c, e = .returned (.tuple #[.slice a r.1.length c, .int .i64 r.2]) ∧ NumRow w.heap.size r.1 (.slice a r.1.length c) w' ∧ r.1.length ≤ c ∧ c ≤ maxLen ∧ Below w.heap.size w w'
theorem OwnB.row {base B : Nat} {w : World} {xs : List Nat} (h : OwnB base B w xs) : ∃ a c, w.cell? ⟨B, 0, none⟩ = some (.slice a xs.length c) ∧ NumRow base xs (.slice a xs.length c) w ∧ xs.length ≤ c ∧ c ≤ maxLen := by
  obtain ⟨h0, v, hv, hown⟩ := h
  obtain ⟨a, c, rfl, _, h1, h2⟩ := numRow_numsc hown
  exact ⟨a, c, cell_of_one hv, hown, h1, h2⟩
theorem nilRow (B : Nat) (w : World) : NumRow B [] (.slice none 0 0) w := ⟨rfl, Or.inl ⟨rfl, rfl⟩⟩
set_option maxHeartbeats 1000000 in
set_option maxRecDepth 100000 in
theorem unpackr_any (s : ByteArray) (many wide : Int) (w : World) (hs : s.size ≤ maxLen) :
    Calls Tryz.prog 118 #[.string s, .int .i64 many, .int .i64 wide] w (AllPostR (unpR s.data.toList many wide) w) := by
  have hmf : ∀ (fn : Fn) (first cap : Array Value) (w : World), (Instr.makeFunc fn first cap).run Tryz.prog w = .ok (.func fn first cap) w := fun _ _ _ _ => rfl
  obtain ⟨i0, hi, hz0, hz1, hz2⟩ := info_parts info_u64
  have hck := fun w => check_any s many wide w hs
  by_cases hc : chkR s.data.toList many wide = 0
  · obtain ⟨m, n, rfl, rfl, hm, hn, hl, hq⟩ := chk_zero _ _ _ hc
    have HR := Lib.hid (show unpR s.data.toList m n = (B.dg n m (B.leN s.data.toList), 0) by rw [unpR, if_pos hc]; simp)
    rw [hc] at hck
    have HCK := Lib.hid hck
    rw [len_data] at hl
    have hmn : m * n ≤ 64 * 64 := Nat.mul_le_mul hm hn
    have h8 : m * n ≤ 8 * s.size ∧ s.size ≤ 4096 := by rw [hl]; unfold B.sz; omega
    have HBE := Lib.hid (fun base Bk w ho => beach_any base Bk s m n w hn hm h8.1 h8.2 ho)
    clear hck hc hq hl hmn h8
    generalize B.dg n m (B.leN s.data.toList) = xs at *
    go_enter Tryz.func118, Tryz.ntmps118
    go_wp2_with fail
    refine (HCK.out _).mono ?_
    rintro e w1 ⟨rfl, rfl⟩
    go_wp2_with (at_make; refine wpList_make_own _ rfl _ _ 44 rfl w.heap.size 34 i0 (.int .u64 0) 1 Tryz.underlying44 hi hz0 hz1 .i64 .i64 _ m rfl rfl rfl (by rw [hz2]; omega) (by unfold maxLen; omega) (Nat.le_refl _) ?_; intro w0 hown0 hgrow0)
    have hb0 : Below w.heap.size w w0 := (Below.refl _ _).grown hgrow0 (Nat.le_refl _) (fun k hk => by cases hk)
    have hob : OwnB w.heap.size w0.heap.size (w0.alloc (.cells #[.slice (some ⟨w.heap.size, 0, none⟩) 0 m] 44)) [] :=
      ⟨hb0.size, _, heap_alloc_new w0 _, hown0.alloc _⟩
    clear hown0 hgrow0
    go_wp2_with fail
    refine (HBE.out w.heap.size w0.heap.size _ hob).mono ?_
    rintro e w2 ⟨rfl, ho2, hb2⟩
    obtain ⟨a, c, hcell, hrow, hlc, hcm⟩ := ho2.row
    go_wp2_with fail
    go_ret2
    rw [HR.out]
    exact ⟨a, c, rfl, hrow, hlc, hcm, (hb0.alloc hb0.size _).trans hb2⟩
  · have HR := Lib.hid (show unpR s.data.toList many wide = ([], chkR s.data.toList many wide) by rw [unpR, if_neg hc])
    have g1 : ((chkR s.data.toList many wide : Int) != 0) = true := by rw [bne_iff_ne]; omega
    generalize chkR s.data.toList many wide = er at *
    have HCK := Lib.hid hck
    clear hck hc
    go_enter Tryz.func118, Tryz.ntmps118
    go_wp2_with fail
    refine (HCK.out _).mono ?_
    rintro e w1 ⟨rfl, rfl⟩
    go_wp2_with fail
    go_ret2
    rw [HR.out]
    exact ⟨none, 0, rfl, nilRow _ _, Nat.le_refl _, by unfold maxLen; omega, Below.refl _ _⟩
end Go.Proofs.YtcachhnhncodoaaGreat
namespace Go.Proofs.YtcachhnhncodoaaGreat
open Go.RowKit
set_option linter.unusedVariables false
set_option maxHeartbeats 400000 in
theorem pfits_any (n k : Nat) (w : World) (hk : k ≤ 64) :
    Calls Tryz.prog 191 #[.int .u64 n, .int .i64 k] w fun e w' => e = .returned (.bool (!P.out k n)) ∧ w = w' := by
  have hq : ((n : Int) / 2 ^ k == 0) = !P.out k n := by
    have e : ((n : Int) / 2 ^ k) = ((n / 2 ^ k : Nat) : Int) := by simp
    rw [e]
    unfold P.out
    rw [Bool.not_not]
    by_cases h : B.bl n ≤ k
    · rw [decide_eq_true h, beq_iff_eq, Nat.div_eq_of_lt ((B.bl_le n k).1 h)]; rfl
    · rw [decide_eq_false h, beq_eq_false_iff_ne]
      intro h0
      have h1 : n / 2 ^ k = 0 := by exact_mod_cast h0
      rcases Nat.div_eq_zero_iff.1 h1 with h2 | h2
      · have := B.pos2 k; omega
      · exact h ((B.bl_le n k).2 h2)
  generalize (!P.out k n) = b at *
  go_enter Tryz.func191, Tryz.ntmps191
  go_wp2_with fail
  go_ret
  exact ⟨rfl, rfl⟩
set_option maxHeartbeats 400000 in
theorem oclos_any (C k n : Nat) (w : World) (hB : Boxed w C 3 (.int .i64 k)) (hk : k ≤ 64) :
    Calls Tryz.prog 190 #[.int .u64 n, .pointer (some ⟨C, 0, none⟩)] w fun e w' => e = .returned (.bool (P.out k n)) ∧ w = w' := by
  have c0 := hB.cell
  have hf := fun W => pfits_any n k W hk
  have hn : (!!P.out k n) = P.out k n := Bool.not_not _
  generalize P.out k n = b at *
  have HF := Lib.hid hf
  clear hf
  cases b
  all_goals
    go_enter Tryz.func190, Tryz.ntmps190
    go_wp2_with fail
    refine (HF.out _).mono ?_
    rintro e w1 ⟨rfl, rfl⟩
    go_wp2_with fail
    go_ret
    exact ⟨rfl, rfl⟩
theorem xor_max64 (b : Nat) (hb : b < 18446744073709551616) : bits .xor .u64 IntKind.u64.max (b : Int) = ((18446744073709551615 - b : Nat) : Int) := by
  have e : (IntKind.u64.max : Int) = ((18446744073709551615 : Nat) : Int) := rfl
  rw [e, bits_xor_u64_nat 18446744073709551615 b (by omega) hb]
  have h := congrArg BitVec.toNat (BitVec.allOnes_xor (x := BitVec.ofNat 64 b))
  rw [BitVec.toNat_xor, BitVec.toNat_allOnes, BitVec.toNat_not, BitVec.toNat_ofNat, Nat.mod_eq_of_lt (show b < 2 ^ 64 by omega)] at h
  have h2 : 18446744073709551615 ^^^ b = 18446744073709551615 - b := h
  rw [h2]
set_option maxHeartbeats 400000 in
theorem rclos_any (C b n : Nat) (w : World) (hB : Boxed w C 34 (.int .u64 b)) (hb : b < 18446744073709551616) :
    Calls Tryz.prog 180 #[.int .u64 n, .pointer (some ⟨C, 0, none⟩)] w fun e w' => e = .returned (.bool (decide (18446744073709551615 - b < n))) ∧ w = w' := by
  have c0 := hB.cell
  have hx := xor_max64 b hb
  have hd : decide (((18446744073709551615 - b : Nat) : Int) < (n : Int)) = decide (18446744073709551615 - b < n) := decide_eq_decide.2 (by omega)
  generalize 18446744073709551615 - b = q at *
  go_enter Tryz.func180, Tryz.ntmps180
  go_wp2_with fail
  go_ret
  exact ⟨rfl, rfl⟩
def IPost (l : List Nat) (w : World) (e : Ending) (w' : World) : Prop :=
  ∃ a c, e = .returned (.slice a l.length c) ∧ IRow w.heap.size l (.slice a l.length c) w' ∧ Below w.heap.size w w'
set_option maxHeartbeats 1000000 in
set_option maxRecDepth 100000 in
theorem places_o (C k : Nat) (w : World) (hB : Boxed w C 3 (.int .i64 k)) (hk : k ≤ 64) (a : Option Addr) (c : Nat) (l : List Nat) (hl : l.length ≤ 64) (hu : Nums w w.heap.size a l) :
    Calls Tryz.prog 179 #[.slice a l.length c, .func (.func 190) #[] #[.pointer (some ⟨C, 0, none⟩)]] w (IPost (P.plc (P.out k) 0 l) w) := by
  have HU := Lib.hid hu
  have HTK := Lib.hid (fun j h => P.plc_take (P.out k) l j h)
  have HLN := Lib.hid (fun j => P.plc_len (P.out k) 0 (l.take j))
  clear hu
  go_enter Tryz.func179, Tryz.ntmps179
  go_wp2_with fail
  go_loopw [5, 6, 7, 10] (fun v _ _ i wr => ∃ j : Nat, j ≤ l.length ∧ i = .int .i64 j ∧ IRow w.heap.size (P.plc (P.out k) 0 (l.take j)) v wr ∧ Below w.heap.size w wr) (fun _ _ _ i _ => l.length - (intOf i).toNat)
  case atStart => exact ⟨0, by omega, rfl, ⟨rfl, Or.inl ⟨rfl, rfl⟩⟩, Below.refl _ _⟩
  case round =>
    obtain ⟨j, hj, rfl, hrow, hbw⟩ := hrel
    by_cases hlt : j < l.length
    · obtain ⟨b, off, rfl, hb, hcc⟩ := HU.out (fun e => by rw [e] at hlt; simp at hlt)
      have cj := (hbw.cell (p := ⟨b, off + j, none⟩) hb).trans (hcc j hlt)
      have HT := Lib.hid (HTK.out j hlt)
      have hln := HLN.out j
      rw [List.length_take] at hln
      have HC := Lib.hid (oclos_any C k (l.getD j 0) wr ((hbw.block C hB.lt).trans hB) hk)
      generalize l.getD j 0 = x at *
      generalize P.plc (P.out k) 0 (l.take j) = acc at *
      have hjI : (j : Int) < (l.length : Int) := by omega
      by_cases ho : P.out k x = true
      · rw [ho] at HC HT
        have HROW := Lib.hid (IRow.alloc_ hrow)
        have hlb : (acc.length + 1) * 8 ≤ 140737488355328 := by omega
        have hb5 : w.heap.size ≤ (wr.alloc (.cells #[.int .i64 (j : Int)] 3)).heap.size := by have := hbw.size; simp; omega
        clear hrow hln hcc ho
        go_wp2_with fail
        refine (HC.out).mono ?_
        rintro e w1 ⟨rfl, rfl⟩
        go_wp2_with (at_builtin; refine wpList_append_onei rfl (.tmp 18) (.tmp 20) rfl w.heap.size _ acc rfl (HROW.out _) wr.heap.size j rfl (World.cell?_alloc_new _ _ _ _) hlb hb5 ?_)
        intro v' w5 hown5 hb6
        go_wp2_with fail
        refine ⟨⟨j + 1, by omega, by go_num, ?_, (hbw.alloc hbw.size _).trans hb6⟩, by simp [intOf]; omega⟩
        rw [HT.out, if_pos trivial]; exact hown5
      · have ho' : P.out k x = false := by simpa using ho
        rw [ho'] at HC HT
        have HROW := Lib.hid hrow
        clear hrow hln hcc ho ho'
        go_wp2_with fail
        refine (HC.out).mono ?_
        rintro e w1 ⟨rfl, rfl⟩
        go_wp2_with fail
        refine ⟨⟨j + 1, by omega, by go_num, ?_, hbw⟩, by simp [intOf]; omega⟩
        rw [HT.out, if_neg (by simp), List.append_nil]; exact HROW.out
    · obtain rfl : j = l.length := by omega
      rw [List.take_length] at hrow
      obtain ⟨a', c', rfl, _⟩ := iRow_nums hrow
      have HN := Lib.hid hrow
      clear hrow
      generalize P.plc (P.out k) 0 l = ps at *
      go_wp2_with fail
      go_ret
      exact ⟨a', c', rfl, HN.out, hbw⟩
def over (b n : Nat) : Bool := decide (18446744073709551615 - b < n)
set_option maxHeartbeats 1000000 in
set_option maxRecDepth 100000 in
theorem places_r (C k : Nat) (w : World) (hB : Boxed w C 34 (.int .u64 k)) (hk : k < 18446744073709551616) (a : Option Addr) (c : Nat) (l : List Nat) (hl : l.length ≤ 64) (hu : Nums w w.heap.size a l) :
    Calls Tryz.prog 179 #[.slice a l.length c, .func (.func 180) #[] #[.pointer (some ⟨C, 0, none⟩)]] w (IPost (P.plc (over k) 0 l) w) := by
  have HU := Lib.hid hu
  have HTK := Lib.hid (fun j h => P.plc_take (over k) l j h)
  have HLN := Lib.hid (fun j => P.plc_len (over k) 0 (l.take j))
  clear hu
  go_enter Tryz.func179, Tryz.ntmps179
  go_wp2_with fail
  go_loopw [5, 6, 7, 10] (fun v _ _ i wr => ∃ j : Nat, j ≤ l.length ∧ i = .int .i64 j ∧ IRow w.heap.size (P.plc (over k) 0 (l.take j)) v wr ∧ Below w.heap.size w wr) (fun _ _ _ i _ => l.length - (intOf i).toNat)
  case atStart => exact ⟨0, by omega, rfl, ⟨rfl, Or.inl ⟨rfl, rfl⟩⟩, Below.refl _ _⟩
  case round =>
    obtain ⟨j, hj, rfl, hrow, hbw⟩ := hrel
    by_cases hlt : j < l.length
    · obtain ⟨b, off, rfl, hb, hcc⟩ := HU.out (fun e => by rw [e] at hlt; simp at hlt)
      have cj := (hbw.cell (p := ⟨b, off + j, none⟩) hb).trans (hcc j hlt)
      have HT := Lib.hid (HTK.out j hlt)
      have hln := HLN.out j
      rw [List.length_take] at hln
      have HC := Lib.hid (show Calls Tryz.prog 180 #[.int .u64 (l.getD j 0 : Nat), .pointer (some ⟨C, 0, none⟩)] wr (fun e w' => e = .returned (.bool (over k (l.getD j 0))) ∧ wr = w') from rclos_any C k (l.getD j 0) wr ((hbw.block C hB.lt).trans hB) hk)
      generalize l.getD j 0 = x at *
      generalize P.plc (over k) 0 (l.take j) = acc at *
      have hjI : (j : Int) < (l.length : Int) := by omega
      by_cases ho : over k x = true
      · rw [ho] at HC HT
        have HROW := Lib.hid (IRow.alloc_ hrow)
        have hlb : (acc.length + 1) * 8 ≤ 140737488355328 := by omega
        have hb5 : w.heap.size ≤ (wr.alloc (.cells #[.int .i64 (j : Int)] 3)).heap.size := by have := hbw.size; simp; omega
        clear hrow hln hcc ho
        go_wp2_with fail
        refine (HC.out).mono ?_
        rintro e w1 ⟨rfl, rfl⟩
        go_wp2_with (at_builtin; refine wpList_append_onei rfl (.tmp 18) (.tmp 20) rfl w.heap.size _ acc rfl (HROW.out _) wr.heap.size j rfl (World.cell?_alloc_new _ _ _ _) hlb hb5 ?_)
        intro v' w5 hown5 hb6
        go_wp2_with fail
        refine ⟨⟨j + 1, by omega, by go_num, ?_, (hbw.alloc hbw.size _).trans hb6⟩, by simp [intOf]; omega⟩
        rw [HT.out, if_pos trivial]; exact hown5
      · have ho' : over k x = false := by simpa using ho
        rw [ho'] at HC HT
        have HROW := Lib.hid hrow
        clear hrow hln hcc ho ho'
        go_wp2_with fail
        refine (HC.out).mono ?_
        rintro e w1 ⟨rfl, rfl⟩
        go_wp2_with fail
        refine ⟨⟨j + 1, by omega, by go_num, ?_, hbw⟩, by simp [intOf]; omega⟩
        rw [HT.out, if_neg (by simp), List.append_nil]; exact HROW.out
    · obtain rfl : j = l.length := by omega
      rw [List.take_length] at hrow
      obtain ⟨a', c', rfl, _⟩ := iRow_nums hrow
      have HN := Lib.hid hrow
      clear hrow
      generalize P.plc (over k) 0 l = ps at *
      go_wp2_with fail
      go_ret
      exact ⟨a', c', rfl, HN.out, hbw⟩
set_option maxHeartbeats 400000 in
theorem outside_any (a : Option Addr) (c : Nat) (l : List Nat) (k : Nat) (w : World) (hk : k ≤ 64) (hl : l.length ≤ 64) (hu : Nums w w.heap.size a l) :
    Calls Tryz.prog 167 #[.slice a l.length c, .int .i64 k] w (IPost (P.plc (P.out k) 0 l) w) := by
  have hmf : ∀ (fn : Fn) (first cap : Array Value) (w : World), (Instr.makeFunc fn first cap).run Tryz.prog w = .ok (.func fn first cap) w := fun _ _ _ _ => rfl
  have hb : Below w.heap.size w (w.alloc (.cells #[.int .i64 (k : Int)] 3)) := (Below.refl _ _).alloc (Nat.le_refl _) _
  have HP := Lib.hid (places_o w.heap.size k (w.alloc (.cells #[.int .i64 (k : Int)] 3)) (heap_alloc_new w _) hk a c l hl (hu.next hb))
  have HB := Lib.hid hb
  clear hb
  generalize P.plc (P.out k) 0 l = ps at *
  go_enter Tryz.func167, Tryz.ntmps167
  go_wp2_with fail
  refine (HP.out).mono ?_
  rintro e w1 ⟨a1, c1, rfl, hn, hb1⟩
  go_wp2_with fail
  go_ret
  exact ⟨a1, c1, rfl, hn.mono (by simp), below_then HB.out hb1⟩
end Go.Proofs.YtcachhnhncodoaaGreat
namespace Go.Proofs.YtcachhnhncodoaaGreat
open Go.RowKit
set_option linter.unusedVariables false
theorem UBlk.row {w : World} {g B : Nat} {l : List Nat} (h : UBlk w g l) (hB : B ≤ g) (hm : l.length ≤ maxLen) : NumRow B l (.slice (some ⟨g, 0, none⟩) l.length l.length) w :=
  ⟨by simp [nv_length], Or.inr ⟨g, l.length, (nv l).toArray, rfl, hB, h, Nat.le_refl _, hm, by simp [nv_length], by rw [List.take_of_length_le (by simp [nv_length])]⟩⟩
set_option maxHeartbeats 1000000 in
set_option maxRecDepth 100000 in
theorem min_any (b off c : Nat) (l : List Nat) (w : World) (h0 : 0 < l.length) (hl : l.length ≤ 64)
    (hc : ∀ i, i < l.length → w.cell? ⟨b, off + i, none⟩ = some (.int .u64 ((l.getD i 0 : Nat) : Int))) :
    Calls Tryz.prog 188 #[.slice (some ⟨b, off, none⟩) l.length c] w fun e w' => e = .returned (.int .u64 (P.base l : Nat)) ∧ w = w' := by
  have HC := Lib.hid hc
  have c0 : w.cell? ⟨b, off, none⟩ = some (.int .u64 ((l.getD 0 0 : Nat) : Int)) := hc 0 h0
  have HB := Lib.hid (show P.base l = P.mn (l.getD 0 0) l by
    cases l with
    | nil => simp at h0
    | cons x t => exact (P.mn_self x t).symm)
  have HM1 := Lib.hid (show P.mn (l.getD 0 0) (l.take 1) = l.getD 0 0 by
    cases l with
    | nil => simp at h0
    | cons x t => simp [P.mn])
  have HTK := Lib.hid (fun k h => P.mn_take (l.getD 0 0) l k h)
  have h1I : ¬ (l.length : Int) < 1 := by omega
  have h1L : decide ((l.length : Int) < 1) = false := decide_eq_false h1I
  have h1N : ¬ l.length < 1 := by omega
  generalize l.getD 0 0 = x0 at *
  clear hc
  go_enter Tryz.func188, Tryz.ntmps188
  go_wp2_with fail
  go_loop [3, 4] (fun m i => ∃ k : Nat, 1 ≤ k ∧ k ≤ l.length ∧ i = .int .i64 k ∧ m = .int .u64 ((P.mn x0 (l.take k) : Nat) : Int)) (fun _ i => l.length - (intOf i).toNat)
  case atStart => exact ⟨1, by omega, by omega, rfl, by rw [HM1.out]⟩
  case round =>
    obtain ⟨k, hk1, hk, rfl, rfl⟩ := hrel
    by_cases hlt : k < l.length
    · have ck := HC.out k hlt
      have HT := Lib.hid (HTK.out k hlt)
      generalize l.getD k 0 = x at *
      generalize P.mn x0 (l.take k) = m at *
      go_wp2_with fail
      exact ⟨⟨k + 1, by omega, by omega, by go_num, by rw [HT.out]; congr 1; omega⟩, by simp [intOf]; omega⟩
    · obtain rfl : k = l.length := by omega
      rw [List.take_length]
      go_wp2_with fail
      go_ret
      exact ⟨by rw [HB.out]; rfl, rfl⟩
def FramePost (l : List Nat) (w : World) (e : Ending) (w' : World) : Prop :=
  ∃ a c, e = .returned (.tuple #[.int .u64 (P.base l : Nat), .slice a l.length c]) ∧ NumRow w.heap.size (P.more l) (.slice a l.length c) w' ∧ Below w.heap.size w w'
theorem ublk_more (l : List Nat) (k : Nat) (hk : k < l.length) :
    ((P.more l).take k ++ List.replicate (l.length - k) 0).set k (l.getD k 0 - P.base l) = (P.more l).take (k + 1) ++ List.replicate (l.length - (k + 1)) 0 := by
  have hm := P.more_length l
  have hlen : ((P.more l).take k).length = k := by rw [List.length_take]; omega
  rw [List.set_append_right _ _ (by omega), hlen, Nat.sub_self, show l.length - k = (l.length - (k + 1)) + 1 by omega, List.replicate_succ, List.set_cons_zero]
  rw [List.take_succ_eq_append_getElem (by omega), List.append_assoc]
  have := P.more_get l k hk
  rw [List.getD_eq_getElem?_getD, List.getElem?_eq_getElem (by omega), Option.getD_some] at this
  rw [this]; rfl
set_option maxHeartbeats 1000000 in
set_option maxRecDepth 100000 in
theorem frame_some (b off c : Nat) (l : List Nat) (w : World) (h0 : 0 < l.length) (hl : l.length ≤ 64) (hx : ∀ x ∈ l, x < 18446744073709551616) (hb : b < w.heap.size)
    (hc : ∀ i, i < l.length → w.cell? ⟨b, off + i, none⟩ = some (.int .u64 ((l.getD i 0 : Nat) : Int))) :
    Calls Tryz.prog 165 #[.slice (some ⟨b, off, none⟩) l.length c] w (FramePost l w) := by
  obtain ⟨i0, hi, hz0, hz1, hz2⟩ := info_parts info_u64
  have HC := Lib.hid hc
  have HMIN := Lib.hid (min_any b off c l w h0 hl hc)
  have HLE := Lib.hid (fun k (h : k < l.length) => P.base_le l _ (getD_mem l k h))
  have HLT := Lib.hid (fun k (h : k < l.length) => hx _ (getD_mem l k h))
  have HST := Lib.hid (fun k h => ublk_more l k h)
  have HML := Lib.hid (P.more_length l)
  have hM : (P.more l).length = l.length := P.more_length l
  have HLN := Lib.hid (fun k (h : k ≤ l.length) => show ((P.more l).take k ++ List.replicate (l.length - k) 0).length = l.length by rw [List.length_append, List.length_take, List.length_replicate, hM]; omega)
  have HEND := Lib.hid (show (P.more l).take l.length = P.more l by rw [← hM]; exact List.take_length)
  have g1 : ((l.length : Int) == 0) = false := by rw [beq_eq_false_iff_ne]; omega
  have HRES : ∀ a c' w', NumRow w.heap.size (P.more l) (.slice a l.length c') w' → Below w.heap.size w w' → FramePost l w (.returned (.tuple #[.int .u64 (P.base l : Nat), .slice a l.length c'])) w' := fun a c' w' h1 h2 => ⟨a, c', rfl, h1, h2⟩
  have HR := Lib.hid HRES
  generalize P.base l = bs at *
  generalize P.more l = mo at *
  clear hc hx hM HRES
  go_enter Tryz.func165, Tryz.ntmps165
  go_wp2_with fail
  refine (HMIN.out).mono ?_
  rintro e w1 ⟨rfl, rfl⟩
  go_wp2_with (at_make; refine wpList_make_full _ rfl _ _ 44 rfl w.heap.size 34 i0 (.int .u64 0) 1 Tryz.underlying44 hi hz0 hz1 .i64 .i64 _ _ l.length rfl rfl rfl rfl (by rw [hz2]; omega) (by unfold maxLen; omega) (Nat.le_refl _) ?_; intro w0 hown0 hgrow0)
  have hb0 : Below w.heap.size w w0 := (Below.refl _ _).grown hgrow0 (Nat.le_refl _) (fun k hk => by cases hk)
  have hblk := made_ublk hown0
  obtain ⟨g, hg⟩ : ∃ g, g = w.heap.size := ⟨_, rfl⟩
  rw [← hg] at hblk ⊢
  have hgl : w.heap.size ≤ g := by omega
  clear hg hown0 hgrow0
  go_wp2_with fail
  go_loopw [6, 7, 18] (fun _ _ i wr => ∃ k : Nat, k ≤ l.length ∧ i = .int .i64 k ∧ UBlk wr g (mo.take k ++ List.replicate (l.length - k) 0) ∧ Below w.heap.size w wr) (fun _ _ i _ => l.length - (intOf i).toNat)
  case atStart => exact ⟨0, by omega, rfl, by simpa using hblk, hb0⟩
  case round =>
    obtain ⟨k, hk, rfl, hub, hbw⟩ := hrel
    by_cases hlt : k < l.length
    · have ck := (hbw.cell (p := ⟨b, off + k, none⟩) hb).trans (HC.out k hlt)
      have hle := HLE.out k hlt
      have hlt64 := HLT.out k hlt
      have HS := Lib.hid (HST.out k hlt)
      have hln := HLN.out k hk
      generalize l.getD k 0 = x at *
      generalize mo.take k ++ List.replicate (l.length - k) 0 = acc at *
      have hw : IntKind.u64.wrap ((x : Int) - (bs : Int)) = ((x - bs : Nat) : Int) := by rw [IntKind.wrap_u64]; omega
      have hw2 : (x : Int) - (bs : Int) = ((x - bs : Nat) : Int) := by omega
      generalize x - bs = y at *
      have u1 := hub.cell k (by omega)
      have u2 := hub.free k
      have hub2 := hub.put k y
      generalize acc.getD k 0 = oz at *
      have hkI : (k : Int) < (l.length : Int) := by omega
      have HUB2 := Lib.hid hub2
      have HLN2 := Lib.hid hln
      have HLE2 := Lib.hid hle
      clear hub hub2 hln hle
      go_wp2_with fail
      exact ⟨⟨k + 1, by omega, by go_num, by rw [← HS.out]; exact HUB2.out, hbw.setCell (p := ⟨g, k, none⟩) hgl _⟩, by simp [intOf]; omega⟩
    · obtain rfl : k = l.length := by omega
      rw [Nat.sub_self, List.replicate_zero, List.append_nil, HEND.out] at hub
      have hrow := hub.row hgl (by rw [HML.out]; unfold maxLen; omega)
      rw [HML.out] at hrow
      have HROW := Lib.hid hrow
      clear hrow hub
      go_wp2_with fail
      go_ret2
      exact HR.out _ _ _ HROW.out hbw
set_option maxHeartbeats 400000 in
theorem frame_nil (a : Option Addr) (c : Nat) (w : World) :
    Calls Tryz.prog 165 #[.slice a 0 c] w (FramePost [] w) := by
  go_enter Tryz.func165, Tryz.ntmps165
  go_wp2_with fail
  go_ret2
  exact ⟨none, 0, rfl, nilRow _ _, Below.refl _ _⟩
theorem frame_any (a : Option Addr) (c : Nat) (l : List Nat) (w : World) (hl : l.length ≤ 64) (hx : ∀ x ∈ l, x < 18446744073709551616) (hu : Nums w w.heap.size a l) :
    Calls Tryz.prog 165 #[.slice a l.length c] w (FramePost l w) := by
  by_cases h : l = []
  · subst h; exact frame_nil a c w
  · obtain ⟨b, off, rfl, hb, hc⟩ := hu h
    exact frame_some b off c l w (by cases l with
      | nil => exact absurd rfl h
      | cons x t => simp) hl hx hb hc
set_option maxHeartbeats 400000 in
theorem psize_any (m k : Nat) (w : World) (hm : m ≤ 64) (hk : k ≤ 64) :
    Calls Tryz.prog 196 #[.int .i64 m, .int .i64 k] w fun e w' => e = .returned (.int .i64 (B.sz (m * k) : Nat)) ∧ w = w' := by
  have hmul := Nat.mul_le_mul hm hk
  have e1 : ((m : Int) * (k : Int)) = ((m * k : Nat) : Int) := by simp
  have hq : (((m * k : Nat) : Int) + 7) / 8 = (B.sz (m * k) : Nat) := by unfold B.sz; omega
  generalize hM : m * k = M at *
  have hw1 : IntKind.i64.wrap ((m : Int) * (k : Int)) = (M : Int) := by rw [e1, IntKind.wrap_i64]; omega
  generalize B.sz M = z at *
  go_enter Tryz.func196, Tryz.ntmps196
  go_wp2_with fail
  go_ret
  refine ⟨?_, rfl⟩
  rw [← hq]; rfl
def addS (m ps : List Nat) : Nat := (ps.map fun a => 1 + V.sz (m.getD a 0)).sum
theorem addS_take (m ps : List Nat) (j : Nat) (h : j < ps.length) : addS m (ps.take (j + 1)) = addS m (ps.take j) + (1 + V.sz (m.getD (ps.getD j 0) 0)) := by
  unfold addS
  rw [List.take_succ_eq_append_getElem h, List.map_append, List.sum_append]
  simp only [List.map_cons, List.map_nil, List.sum_cons, List.sum_nil, List.getD_eq_getElem?_getD, List.getElem?_eq_getElem h, Option.getD_some, Nat.add_zero]
theorem addS_le (m ps : List Nat) : addS m ps ≤ 10 * ps.length := by
  unfold addS
  induction ps with
  | nil => simp
  | cons x t ih => have := V.sz_le (m.getD x 0); simp only [List.map_cons, List.sum_cons, List.length_cons]; omega
set_option maxHeartbeats 1000000 in
set_option maxRecDepth 100000 in
theorem cost_any (a : Option Addr) (c : Nat) (l : List Nat) (k : Nat) (w : World) (hk : k ≤ 64) (hl : l.length ≤ 64) (hx : ∀ x ∈ l, x < 18446744073709551616) (hu : Nums w w.heap.size a l) :
    Calls Tryz.prog 189 #[.slice a l.length c, .int .i64 k] w fun e w' => e = .returned (.int .i64 (P.cost k l : Nat)) ∧ Below w.heap.size w w' := by
  have HU := Lib.hid hu
  have HX := Lib.hid (fun k (h : k < l.length) => hx _ (getD_mem l k h))
  have HO := Lib.hid (outside_any a c l k w hk hl hu)
  have HZ := Lib.hid (fun W => psize_any l.length k W hl hk)
  have hmul := Nat.mul_le_mul hl hk
  have hzb : B.sz (l.length * k) ≤ 4096 := by unfold B.sz; omega
  have hpl := P.plc_len (P.out k) 0 l
  have HPL := Lib.hid (fun a (h : a ∈ P.plc (P.out k) 0 l) => show a < l.length by have := (P.plc_lt (P.out k) 0 l a h).2; omega)
  have HRES := Lib.hid (show P.cost k l = B.sz (l.length * k) + addS l (P.plc (P.out k) 0 l) from rfl)
  have HTK := Lib.hid (fun j h => addS_take l (P.plc (P.out k) 0 l) j h)
  have HLE := Lib.hid (fun ps => addS_le l ps)
  have HGM := Lib.hid (fun j (h : j < (P.plc (P.out k) 0 l).length) => getD_mem (P.plc (P.out k) 0 l) j h)
  generalize P.plc (P.out k) 0 l = ps at *
  generalize B.sz (l.length * k) = z at *
  clear hx hu hmul
  go_enter Tryz.func189, Tryz.ntmps189
  go_wp2_with fail
  refine (HZ.out _).mono ?_
  rintro e w1 ⟨rfl, rfl⟩
  go_wp2_with fail
  refine (HO.out).mono ?_
  rintro e w2 ⟨a2, c2, rfl, r2, hb2⟩
  have N2 := Lib.hid r2.nums
  clear r2
  go_wp2_with fail
  go_loopw [5, 7, 16] (fun s _ i wr => ∃ j : Nat, j ≤ ps.length ∧ i = .int .i64 j ∧ s = .int .i64 ((z + addS l (ps.take j) : Nat) : Int) ∧ Below w2.heap.size w2 wr) (fun _ _ i _ => ps.length - (intOf i).toNat)
  case atStart => exact ⟨0, by omega, rfl, by simp [addS], Below.refl _ _⟩
  case round =>
    obtain ⟨j, hj, rfl, rfl, hbw⟩ := hrel
    by_cases hlt : j < ps.length
    · obtain ⟨b2, off2, rfl, hb2l, hcc2⟩ := N2.out (fun e => by rw [e] at hlt; simp at hlt)
      have cj := (hbw.cell (p := ⟨b2, off2 + j, none⟩) hb2l).trans (hcc2 j hlt)
      have HT := Lib.hid (HTK.out j hlt)
      have hpj := HPL.out _ (HGM.out j hlt)
      have hle := HLE.out (ps.take j)
      rw [List.length_take] at hle
      generalize ps.getD j 0 = p at *
      obtain ⟨b, off, rfl, hb, hcc⟩ := HU.out (fun e => by rw [e] at hpj; simp at hpj)
      have cp := (hbw.cell (p := ⟨b, off + p, none⟩) (show b < w2.heap.size by have := hb2.size; omega)).trans ((hb2.cell (p := ⟨b, off + p, none⟩) hb).trans (hcc p hpj))
      have hxp := HX.out p hpj
      generalize l.getD p 0 = x at *
      have HW := Lib.hid (fun W => write_any x W hxp)
      have hel := V.enc_length x
      have hse : (str (V.enc x)).size = V.sz x := by rw [str_size, hel]
      have hs9 := V.sz_le x
      obtain ⟨t, ht⟩ : ∃ t, t = str (V.enc x) := ⟨_, rfl⟩
      rw [← ht] at hse
      have HW2 := Lib.hid (fun W => show Calls Tryz.prog 50 #[.int .u64 (x : Int)] W (fun e w' => e = .returned (.string t) ∧ Below W.heap.size W w') by rw [ht]; exact HW.out W)
      generalize addS l (ps.take j) = sm at *
      have HSE := Lib.hid hse
      have hts : t.size ≤ 9 := by omega
      have hjI : (j : Int) < (ps.length : Int) := by omega
      have hpI : (p : Int) < (l.length : Int) := by omega
      clear hcc hcc2 HW ht hel hse
      go_wp2_with fail
      refine (HW2.out _).mono ?_
      rintro e w3 ⟨rfl, hb3⟩
      go_wp2_with fail
      refine ⟨⟨j + 1, by omega, by go_num, by rw [HT.out, ← HSE.out]; congr 1; omega, below_then hbw hb3⟩, by simp [intOf]; omega⟩
    · obtain rfl : j = ps.length := by omega
      rw [List.take_length]
      go_wp2_with fail
      go_ret
      exact ⟨by rw [HRES.out]; rfl, below_then hb2 hbw⟩
set_option maxHeartbeats 1000000 in
set_option maxRecDepth 100000 in
theorem best_any (a : Option Addr) (c : Nat) (l : List Nat) (w : World) (hl : l.length ≤ 64) (hx : ∀ x ∈ l, x < 18446744073709551616) (hu : Nums w w.heap.size a l) :
    Calls Tryz.prog 166 #[.slice a l.length c] w fun e w' => e = .returned (.int .i64 (P.best l : Nat)) ∧ Below w.heap.size w w' := by
  have HC := Lib.hid (fun W (k : Nat) (hk : k ≤ 64) (h : Nums W W.heap.size a l) => cost_any a c l k W hk hl hx h)
  have HU := Lib.hid hu
  have HR := Lib.hid (show P.best l = P.upB (fun w => P.cost w l) 64 from rfl)
  obtain ⟨f, hf⟩ : ∃ f, f = fun w => P.cost w l := ⟨_, rfl⟩
  rw [← hf] at HR
  have HC2 := Lib.hid (fun W (k : Nat) (hk : k ≤ 64) (h : Nums W W.heap.size a l) => show Calls Tryz.prog 189 #[.slice a l.length c, .int .i64 k] W (fun e w' => e = .returned (.int .i64 (f k : Nat)) ∧ Below W.heap.size W w') by rw [hf]; exact HC.out W k hk h)
  clear hu hx HC hf
  have c0 := HC2.out w 0 (by omega) HU.out
  have HC0 := Lib.hid (show Calls Tryz.prog 189 #[.slice a l.length c, .int .i64 0] w (fun e w' => e = .returned (.int .i64 (f 0 : Nat)) ∧ Below w.heap.size w w') from c0)
  clear c0
  go_enter Tryz.func166, Tryz.ntmps166
  go_wp2_with fail
  refine (HC0.out).mono ?_
  rintro e w1 ⟨rfl, hb1⟩
  go_wp2_with fail
  go_loopw [3, 4, 5, 6, 9] (fun wd ls _ _ i wr => ∃ j u : Nat, j ≤ 65 ∧ i = .int .i64 j ∧ Hid (u = P.upB f (j - 1)) ∧ wd = .int .i64 u ∧ ls = .int .i64 (f u : Nat) ∧ Below w.heap.size w wr) (fun _ _ _ _ i _ => 65 - (intOf i).toNat)
  case atStart => exact ⟨0, 0, by omega, rfl, Lib.hid rfl, rfl, rfl, hb1⟩
  case round =>
    obtain ⟨j, u, hj, rfl, HUP, rfl, rfl, hbw⟩ := hrel
    by_cases hlt : j < 65
    · have HCJ := Lib.hid (HC2.out wr j (by omega) (HU.out.next hbw))
      by_cases hless : f j < f u
      · have hj0 : j ≠ 0 := fun e => by subst e; have := HUP.out; rw [this] at hless; exact absurd hless (Nat.lt_irrefl _)
        have HN := Lib.hid (show j = P.upB f (j + 1 - 1) by
          obtain ⟨i, rfl⟩ : ∃ i, j = i + 1 := ⟨j - 1, by omega⟩
          have h := HUP.out
          rw [Nat.add_sub_cancel] at h ⊢
          show _ = if _ then _ else _
          rw [← h, if_pos hless])
        have g1 : decide (f j < f u) = true := decide_eq_true hless
        clear hless hj0 HUP
        go_wp2_with fail
        refine (HCJ.out).mono ?_
        rintro e w2 ⟨rfl, hb2⟩
        go_wp2_with fail
        exact ⟨⟨j + 1, j, by omega, by go_num, HN, rfl, rfl, hbw.trans (hb2.mono hbw.size)⟩, by simp [intOf]; omega⟩
      · have HN := Lib.hid (show u = P.upB f (j + 1 - 1) by
          have h := HUP.out
          rw [Nat.add_sub_cancel]
          cases j with
          | zero => exact h
          | succ i =>
            rw [Nat.add_sub_cancel] at h
            show _ = if _ then _ else _
            rw [← h, if_neg hless])
        have g1 : decide (f j < f u) = false := decide_eq_false hless
        clear hless HUP
        go_wp2_with fail
        refine (HCJ.out).mono ?_
        rintro e w2 ⟨rfl, hb2⟩
        go_wp2_with fail
        exact ⟨⟨j + 1, u, by omega, by go_num, HN, rfl, rfl, hbw.trans (hb2.mono hbw.size)⟩, by simp [intOf]; omega⟩
    · obtain rfl : j = 65 := by omega
      have HFIN := Lib.hid (show u = P.best l by rw [HR.out]; exact HUP.out)
      go_wp2_with fail
      go_ret
      exact ⟨by rw [← HFIN.out]; rfl, hbw⟩
end Go.Proofs.YtcachhnhncodoaaGreat
namespace Go.Proofs.YtcachhnhncodoaaGreat
open Go.RowKit
set_option linter.unusedVariables false
set_option maxHeartbeats 1000000 in
set_option maxRecDepth 100000 in
theorem rbase_some (b off c : Nat) (l : List Nat) (w : World) (h0 : 0 < l.length) (hl : l.length ≤ 64)
    (hc : ∀ i, i < l.length → w.cell? ⟨b, off + i, none⟩ = some (.int .u64 ((l.getD i 0 : Nat) : Int))) :
    Calls Tryz.prog 131 #[.slice (some ⟨b, off, none⟩) l.length c] w fun e w' => e = .returned (.int .u64 (P.base l : Nat)) ∧ w = w' := by
  have HC := Lib.hid hc
  have c0 : w.cell? ⟨b, off, none⟩ = some (.int .u64 ((l.getD 0 0 : Nat) : Int)) := hc 0 h0
  have HB := Lib.hid (show P.base l = P.mn (l.getD 0 0) l by
    cases l with
    | nil => simp at h0
    | cons x t => exact (P.mn_self x t).symm)
  have HTK := Lib.hid (fun k h => P.mn_take (l.getD 0 0) l k h)
  have h1L : ((l.length : Int) == 0) = false := by rw [beq_eq_false_iff_ne]; omega
  generalize l.getD 0 0 = x0 at *
  have h0I : (0 : Int) < (l.length : Int) := by omega
  clear hc
  go_enter Tryz.func131, Tryz.ntmps131
  go_wp2_with fail
  go_loop [3, 4] (fun m i => ∃ k : Nat, k ≤ l.length ∧ i = .int .i64 k ∧ m = .int .u64 ((P.mn x0 (l.take k) : Nat) : Int)) (fun _ i => l.length - (intOf i).toNat)
  case atStart => exact ⟨0, by omega, rfl, rfl⟩
  case round =>
    obtain ⟨k, hk, rfl, rfl⟩ := hrel
    by_cases hlt : k < l.length
    · have ck := HC.out k hlt
      have HT := Lib.hid (HTK.out k hlt)
      generalize l.getD k 0 = x at *
      generalize P.mn x0 (l.take k) = m at *
      by_cases hless : x < m
      · have g1 : decide (x < m) = true := decide_eq_true hless
        have HE := Lib.hid (show min m x = x by omega)
        clear hless
        go_wp2_with fail
        exact ⟨⟨k + 1, by omega, by go_num, by rw [HT.out, HE.out]⟩, by simp [intOf]; omega⟩
      · have g1 : decide (x < m) = false := decide_eq_false hless
        have HE := Lib.hid (show min m x = m by omega)
        clear hless
        go_wp2_with fail
        exact ⟨⟨k + 1, by omega, by go_num, by rw [HT.out, HE.out]⟩, by simp [intOf]; omega⟩
    · obtain rfl : k = l.length := by omega
      rw [List.take_length]
      go_wp2_with fail
      go_ret
      exact ⟨by rw [HB.out]; rfl, rfl⟩
set_option maxHeartbeats 400000 in
theorem rbase_nil (a : Option Addr) (c : Nat) (w : World) :
    Calls Tryz.prog 131 #[.slice a 0 c] w fun e w' => e = .returned (.int .u64 0) ∧ w = w' := by
  go_enter Tryz.func131, Tryz.ntmps131
  go_wp2_with fail
  go_ret
  exact ⟨rfl, rfl⟩
theorem rbase_any (a : Option Addr) (c : Nat) (l : List Nat) (w : World) (Bs : Nat) (hl : l.length ≤ 64) (hu : Nums w Bs a l) :
    Calls Tryz.prog 131 #[.slice a l.length c] w fun e w' => e = .returned (.int .u64 (P.base l : Nat)) ∧ w = w' := by
  by_cases h : l = []
  · subst h; exact rbase_nil a c w
  · obtain ⟨b, off, rfl, hb, hc⟩ := hu h
    exact rbase_some b off c l w (by cases l with
      | nil => exact absurd rfl h
      | cons x t => simp) hl hc
end Go.Proofs.YtcachhnhncodoaaGreat
namespace Go.Proofs.YtcachhnhncodoaaGreat
open Go.RowKit
set_option linter.unusedVariables false
set_option maxHeartbeats 1000000 in
set_option maxRecDepth 100000 in
theorem rcost_some (b off c : Nat) (l : List Nat) (k : Nat) (w : World) (hk : k ≤ 64) (hl : l.length ≤ 64) (hx : ∀ x ∈ l, x < 18446744073709551616) (hb : b < w.heap.size)
    (hc : ∀ i, i < l.length → w.cell? ⟨b, off + i, none⟩ = some (.int .u64 ((l.getD i 0 : Nat) : Int))) :
    Calls Tryz.prog 130 #[.slice (some ⟨b, off, none⟩) l.length c, .int .i64 k] w fun e w' => e = .returned (.int .i64 (P.cost k (P.more l) : Nat)) ∧ Below w.heap.size w w' := by
  have hu : Nums w w.heap.size (some ⟨b, off, none⟩) l := fun _ => ⟨b, off, rfl, hb, hc⟩
  have HC := Lib.hid hc
  have HX := Lib.hid (fun j (h : j < l.length) => hx _ (getD_mem l j h))
  have HLE := Lib.hid (fun j (h : j < l.length) => P.base_le l _ (getD_mem l j h))
  have HBS := Lib.hid (fun W (h : Below w.heap.size w W) => rbase_any (some ⟨b, off, none⟩) c l W w.heap.size hl (hu.below h))
  have hmul := Nat.mul_le_mul hl hk
  have hmI : ((l.length : Int) * (k : Int)) = ((l.length * k : Nat) : Int) := by simp
  have hml := P.more_length l
  have HCE := Lib.hid (show P.cost k (P.more l) = B.sz (l.length * k) + P.extra k (P.more l) by rw [P.cost_eq, hml])
  have HTK := Lib.hid (fun j (h : j < l.length) => show P.extra k ((P.more l).take (j + 1)) = P.extra k ((P.more l).take j) + (if P.out k (l.getD j 0 - P.base l) then 1 + V.sz (l.getD j 0 - P.base l) else 0) by
    rw [P.extra_take k (P.more l) j (by omega), P.more_get l j h])
  have HEL := Lib.hid (fun j => show P.extra k ((P.more l).take j) ≤ 640 by have := P.extra_le k ((P.more l).take j); rw [List.length_take] at this; omega)
  have HEND := Lib.hid (show (P.more l).take l.length = P.more l by rw [← hml]; exact List.take_length)
  have hbl := P.base_lt l hx
  generalize P.more l = mo at *
  generalize P.base l = bs at *
  generalize hM : l.length * k = M at *
  have hszM : B.sz M = M / 8 + (if 0 < M % 8 then 1 else 0) := by unfold B.sz; split <;> omega
  have hwm : IntKind.i64.wrap ((l.length : Int) * (k : Int)) = (M : Int) := by rw [hmI, IntKind.wrap_i64]; omega
  have hq1 : ((M : Int) / 8) = ((M / 8 : Nat) : Int) := by omega
  have hq2 : ((M : Int) % 8) = ((M % 8 : Nat) : Int) := by omega
  have hq3 : M / 8 ≤ 512 := by omega
  have hq4 : B.sz M ≤ 513 := by rw [hszM]; split <;> omega
  generalize hz : B.sz M = z at *
  have HSZ := Lib.hid hszM
  clear hszM hz hc hx hM hml hu
  have main : ∀ (W : World) (HW : Below w.heap.size w W) (R : Act → World → Prop), True := fun _ _ _ => trivial
  clear main
  by_cases hr : 0 < M % 8
  all_goals
    first
      | have g1 : decide (0 < M % 8) = true := decide_eq_true hr
      | have g1 : decide (0 < M % 8) = false := decide_eq_false hr
    have hz2 := HSZ.out
    first | rw [if_pos hr] at hz2 | rw [if_neg hr] at hz2
    generalize M / 8 = d at *
    generalize M % 8 = rr at *
    first
      | have hzI : ((d : Int) + 1) = (z : Int) := by omega
      | have hzI : (d : Int) = (z : Int) := by omega
    have HZI := Lib.hid hzI
    clear hz2 hzI hr
    go_enter Tryz.func130, Tryz.ntmps130
    go_wp2_with fail
    clear hq1 hq2 hwm hmI g1
    go_loopw [5, 6, 7] (fun n i _ wr => ∃ j : Nat, j ≤ l.length ∧ i = .int .i64 j ∧ n = .int .i64 ((z + P.extra k (mo.take j) : Nat) : Int) ∧ Below w.heap.size w wr) (fun _ i _ _ => l.length - (intOf i).toNat)
    case atStart => exact ⟨0, by omega, rfl, by first | rw [HZI.out]; simp [P.extra] | simp [P.extra], Below.refl _ _⟩
    case round =>
      obtain ⟨j, hj, rfl, rfl, hbw⟩ := hrel
      by_cases hlt : j < l.length
      · have cj := (hbw.cell (p := ⟨b, off + j, none⟩) hb).trans (HC.out j hlt)
        have hxj := HX.out j hlt
        have hle := HLE.out j hlt
        have HT := Lib.hid (HTK.out j hlt)
        have hel := HEL.out j
        generalize l.getD j 0 = x at *
        generalize P.extra k (mo.take j) = ex at *
        have hws : IntKind.u64.wrap ((x : Int) - (bs : Int)) = ((x - bs : Nat) : Int) := by rw [IntKind.wrap_u64]; omega
        have hws2 : (x : Int) - (bs : Int) = ((x - bs : Nat) : Int) := by omega
        obtain ⟨y, hy⟩ : ∃ y, y = x - bs := ⟨_, rfl⟩
        rw [← hy] at hws hws2 HT
        have hyb : y < 18446744073709551616 := by omega
        have hfit := fun W => fits_any y k W hyb hk
        have hs9 := V.sz_le y
        have hel2 := V.enc_length y
        have hjI : (j : Int) < (l.length : Int) := by omega
        clear hy
        by_cases ho : B.bl y ≤ k
        · rw [decide_eq_true ho] at hfit
          have HF := Lib.hid hfit
          have hout : P.out k y = false := by unfold P.out; simp [ho]
          rw [hout, if_neg (by simp)] at HT
          clear hfit ho hout
          go_wp2_with fail
          go_quiet ((go_at_call 131; exact Calls.quiet_same (HBS.out _ (below_drewN hbw _))))
          go_wp2_with fail
          refine (HF.out _).mono ?_
          rintro e w2 ⟨rfl, rfl⟩
          go_wp2_with fail
          exact ⟨⟨j + 1, by omega, by go_num, by rw [HT.out, Nat.add_zero]; simp, below_drewN hbw _⟩, by simp [intOf]; omega⟩
        · rw [decide_eq_false ho] at hfit
          have HF := Lib.hid hfit
          have hout : P.out k y = true := by unfold P.out; simp; omega
          rw [hout, if_pos rfl] at HT
          obtain ⟨t, ht⟩ : ∃ t, t = str (V.enc y) := ⟨_, rfl⟩
          have hts : t.size = V.sz y := by rw [ht, str_size, hel2]
          have HTS := Lib.hid hts
          have hts9 : t.size ≤ 9 := by omega
          have HVB := Lib.hid (fun W => show Calls Tryz.prog 15 #[.int .u64 (y : Int)] W (fun e w' => e = .returned (.string t) ∧ Below W.heap.size W w') by rw [ht]; exact vbytes_any y W hyb)
          clear hfit ho hout ht hel2 hts
          go_wp2_with fail
          go_quiet ((go_at_call 131; exact Calls.quiet_same (HBS.out _ (below_drewN hbw _))))
          go_wp2_with fail
          refine (HF.out _).mono ?_
          rintro e w2 ⟨rfl, rfl⟩
          go_wp2_with fail
          refine (HVB.out _).mono ?_
          rintro e w3 ⟨rfl, hb3⟩
          go_wp2_with fail
          exact ⟨⟨j + 1, by omega, by go_num, by rw [HT.out, ← HTS.out]; congr 1; omega, below_then (below_drewN hbw _) hb3⟩, by simp [intOf]; omega⟩
      · obtain rfl : j = l.length := by omega
        rw [HEND.out]
        go_wp2_with fail
        go_ret
        exact ⟨by rw [HCE.out]; rfl, hbw⟩
set_option maxHeartbeats 400000 in
theorem rcost_nil (a : Option Addr) (c k : Nat) (w : World) (hk : k ≤ 64) :
    Calls Tryz.prog 130 #[.slice a 0 c, .int .i64 k] w fun e w' => e = .returned (.int .i64 0) ∧ Below w.heap.size w w' := by
  go_enter Tryz.func130, Tryz.ntmps130
  go_wp2_with fail
  refine wp_loop_rounds 1 ?_
  rw [rounds_succ]
  go_wp2_with fail
  go_ret
  exact ⟨rfl, Below.refl _ _⟩
theorem rcost_any (a : Option Addr) (c : Nat) (l : List Nat) (k : Nat) (w : World) (hk : k ≤ 64) (hl : l.length ≤ 64) (hx : ∀ x ∈ l, x < 18446744073709551616) (hu : Nums w w.heap.size a l) :
    Calls Tryz.prog 130 #[.slice a l.length c, .int .i64 k] w fun e w' => e = .returned (.int .i64 (P.cost k (P.more l) : Nat)) ∧ Below w.heap.size w w' := by
  by_cases h : l = []
  · subst h
    have e : P.cost k (P.more []) = 0 := by rw [P.cost_eq]; simp [P.more, P.extra, B.sz]
    rw [e]; exact rcost_nil a c k w hk
  · obtain ⟨b, off, rfl, hb, hc⟩ := hu h
    exact rcost_some b off c l k w hk hl hx hb hc
theorem plc_count (p : Nat → Bool) (l : List Nat) (j : Nat) (h : j < l.length) : (P.plc p 0 (l.take (j + 1))).length = (P.plc p 0 (l.take j)).length + (if p (l.getD j 0) then 1 else 0) := by
  rw [P.plc_take p l j h, List.length_append]
  split <;> rfl
set_option maxHeartbeats 2000000 in
set_option maxRecDepth 100000 in
theorem rpatch_any (a : Option Addr) (c : Nat) (l : List Nat) (w : World) (hl : l.length ≤ 64) (hx : ∀ x ∈ l, x < 18446744073709551616) (hu : Nums w w.heap.size a l) :
    Calls Tryz.prog 102 #[.slice a l.length c] w (TextPost (P.bytes l) w) := by
  have HU := Lib.hid hu
  have HX := Lib.hid (fun j (h : j < l.length) => hx _ (getD_mem l j h))
  have HLE := Lib.hid (fun j (h : j < l.length) => P.base_le l _ (getD_mem l j h))
  have hml := P.more_length l
  have hmx := P.more_lt l hx
  have hbl := P.base_lt l hx
  have HBS := Lib.hid (fun W (h : Below w.heap.size w W) => rbase_any a c l W w.heap.size hl (hu.below h))
  obtain ⟨f, hf⟩ : ∃ f, f = fun w => P.cost w (P.more l) := ⟨_, rfl⟩
  have HCO := Lib.hid (fun W (k : Nat) (hk : k ≤ 64) (h : Nums W W.heap.size a l) => show Calls Tryz.prog 130 #[.slice a l.length c, .int .i64 k] W (fun e w' => e = .returned (.int .i64 (f k : Nat)) ∧ Below W.heap.size W w') by rw [hf]; exact rcost_any a c l k W hk hl hx h)
  have HBEST := Lib.hid (show P.dnB f 64 64 = P.best (P.more l) by rw [hf]; exact P.dnB_up _ 64)
  have hwd := P.best_le (P.more l)
  have HMG := Lib.hid (fun j (h : j < l.length) => P.more_get l j h)
  have HIT := Lib.hid (fun j (h : j < (P.more l).length) => P.ins_take (P.best (P.more l)) (P.more l) j h)
  have HTT := Lib.hid (fun j (h : j < (P.more l).length) => P.tail_take (P.best (P.more l)) (P.more l) j h)
  have HCT := Lib.hid (fun j (h : j < (P.more l).length) => plc_count (P.out (P.best (P.more l))) (P.more l) j h)
  have HTL := Lib.hid (fun j => show (P.tail (P.best (P.more l)) 0 ((P.more l).take j)).length ≤ 640 by
    rw [P.tail_length]; have := P.extra_le (P.best (P.more l)) ((P.more l).take j); rw [List.length_take] at this; omega)
  have HCL := Lib.hid (fun j => show (P.plc (P.out (P.best (P.more l))) 0 ((P.more l).take j)).length ≤ 64 by
    have := P.plc_len (P.out (P.best (P.more l))) 0 ((P.more l).take j); rw [List.length_take] at this; omega)
  have HIL := Lib.hid (fun j (h : j ≤ l.length) => show (P.ins (P.best (P.more l)) ((P.more l).take j)).length = j by rw [P.ins_length, List.length_take]; omega)
  have HEND := Lib.hid (show (P.more l).take l.length = P.more l by rw [← hml]; exact List.take_length)
  have hil := P.ins_length (P.best (P.more l)) (P.more l)
  have hfit := P.ins_fit (P.best (P.more l)) (P.more l)
  have HPK := Lib.hid (fun A c' W (h : Nums W W.heap.size A (P.ins (P.best (P.more l)) (P.more l))) => show Calls Tryz.prog 35 #[.slice A l.length c', .int .i64 (P.best (P.more l) : Nat)] W (TextPost (H.pkd (P.best (P.more l)) (P.ins (P.best (P.more l)) (P.more l))) W) by
    have := packedL_any A c' (P.ins (P.best (P.more l)) (P.more l)) (P.best (P.more l)) W (by omega) hwd hfit (P.ins_lt _ _ hmx) h
    have e : H.pkd (P.best (P.more l)) (P.ins (P.best (P.more l)) (P.more l)) = B.le (B.sz (l.length * P.best (P.more l))) (B.pk (P.best (P.more l)) (P.ins (P.best (P.more l)) (P.more l))) := by unfold H.pkd; rw [hil, hml]
    rw [e]; rw [hil, hml] at this; exact this)
  have hkl : (H.pkd (P.best (P.more l)) (P.ins (P.best (P.more l)) (P.more l))).length ≤ 512 := by
    rw [H.pkd_length, hil]
    have := Nat.mul_le_mul (show (P.more l).length ≤ 64 by omega) hwd
    unfold B.sz; omega
  have HRES := Lib.hid (show P.bytes l = V.enc (P.base l) ++ [UInt8.ofNat (P.best (P.more l))] ++ [UInt8.ofNat (P.plc (P.out (P.best (P.more l))) 0 (P.more l)).length] ++ H.pkd (P.best (P.more l)) (P.ins (P.best (P.more l)) (P.more l)) ++ P.tail (P.best (P.more l)) 0 (P.more l) by
    unfold P.bytes P.bytesM; simp)
  generalize P.more l = mo at *
  generalize P.base l = bs at *
  generalize P.best mo = wd at *
  clear hu hx hmx hil hfit hf
  have HML := Lib.hid hml
  clear hml
  go_enter Tryz.func102, Tryz.ntmps102
  go_wp2_with fail
  go_loopw [3, 4] (fun u k wr => ∃ (p v : Nat) (kk : Int), k = .int .i64 kk ∧ u = .int .i64 p ∧ p ≤ 64 ∧ v ≤ 64 ∧ Hid (kk = (v : Int) - 1) ∧ -1 ≤ kk ∧ kk ≤ 63 ∧ Hid (P.dnB f p v = wd) ∧ Below w.heap.size w wr) (fun _ k _ => (intOf k + 1).toNat)
  case atStart => exact ⟨64, 64, 63, rfl, rfl, by omega, by omega, Lib.hid (by omega), by omega, by omega, HBEST, Below.refl _ _⟩
  case round =>
    obtain ⟨p, v, kk, rfl, rfl, hp, hv, HK, hk1, hk2, HD, hbw⟩ := hrel
    by_cases hge : 0 ≤ kk
    · obtain ⟨q, rfl⟩ : ∃ q : Nat, kk = q := ⟨kk.toNat, by omega⟩
      have hvq : v = q + 1 := by have := HK.out; omega
      subst hvq
      have hd := HD.out
      have hqI : (0 : Int) ≤ (q : Int) := hge
      have HC1 := Lib.hid (HCO.out wr q (by omega) (HU.out.next hbw))
      have HC2 := Lib.hid (fun W (h : Below wr.heap.size wr W) => HCO.out W p hp (HU.out.next (below_then hbw h)))
      unfold P.dnB at hd
      by_cases hle : f q ≤ f p
      · rw [if_pos hle] at hd
        have HD2 := Lib.hid hd
        have g1 : decide (f q ≤ f p) = true := decide_eq_true hle
        clear hd hle
        go_wp2_with fail
        refine (HC1.out).mono ?_
        rintro e w2 ⟨rfl, hb2⟩
        go_wp2_with fail
        refine (HC2.out _ hb2).mono ?_
        rintro e w3 ⟨rfl, hb3⟩
        go_wp2_with fail
        exact ⟨⟨q, q, (q : Int) - 1, by go_num, rfl, by omega, by omega, Lib.hid rfl, by omega, by omega, HD2, below_then (below_then hbw hb2) hb3⟩, by simp [intOf]⟩
      · rw [if_neg hle] at hd
        have HD2 := Lib.hid hd
        have g1 : decide (f q ≤ f p) = false := decide_eq_false hle
        clear hd hle
        go_wp2_with fail
        refine (HC1.out).mono ?_
        rintro e w2 ⟨rfl, hb2⟩
        go_wp2_with fail
        refine (HC2.out _ hb2).mono ?_
        rintro e w3 ⟨rfl, hb3⟩
        go_wp2_with fail
        exact ⟨⟨p, q, (q : Int) - 1, by go_num, rfl, by omega, by omega, Lib.hid rfl, by omega, by omega, HD2, below_then (below_then hbw hb2) hb3⟩, by simp [intOf]⟩
    · have hv0 : v = 0 := by have := HK.out; omega
      subst hv0
      have hpw : p = wd := HD.out
      subst hpw
      have g0 : decide (0 ≤ kk) = false := decide_eq_false hge
      clear HD HBEST
      go_wp2_with fail
      go_loopw [5, 6, 7, 8, 9] (fun v t m i _ wr => ∃ j : Nat, j ≤ l.length ∧ i = .int .i64 j ∧ NumRow w.heap.size (P.ins p (mo.take j)) v wr ∧ t = .string (str (P.tail p 0 (mo.take j))) ∧ m = .int .i64 ((P.plc (P.out p) 0 (mo.take j)).length : Nat) ∧ Below w.heap.size w wr) (fun _ _ _ i _ _ => l.length - (intOf i).toNat)
      case atStart => exact ⟨0, by omega, rfl, ⟨rfl, Or.inl ⟨rfl, rfl⟩⟩, rfl, rfl, hbw⟩
      case round =>
        obtain ⟨j, hj, rfl, hrow, rfl, rfl, hbw2⟩ := hrel
        by_cases hlt : j < l.length
        · obtain ⟨b, off, rfl, hb, hcc⟩ := HU.out (fun e => by rw [e] at hlt; simp at hlt)
          have cj := (hbw2.cell (p := ⟨b, off + j, none⟩) hb).trans (hcc j hlt)
          have hlt2 : j < mo.length := by rw [HML.out]; exact hlt
          have hxj := HX.out j hlt
          have hle := HLE.out j hlt
          have hmg := HMG.out j hlt
          have HIJ := Lib.hid (HIT.out j hlt2)
          have HTJ := Lib.hid (HTT.out j hlt2)
          have HCJ := Lib.hid (HCT.out j hlt2)
          rw [hmg] at HIJ HTJ HCJ
          have htl := HTL.out j
          have hcl := HCL.out j
          have hil := HIL.out j hj
          generalize l.getD j 0 = x at *
          generalize P.ins p (mo.take j) = im at *
          generalize P.tail p 0 (mo.take j) = tt at *
          generalize (P.plc (P.out p) 0 (mo.take j)).length = ct at *
          have hws : IntKind.u64.wrap ((x : Int) - (bs : Int)) = ((x - bs : Nat) : Int) := by rw [IntKind.wrap_u64]; omega
          have hws2 : (x : Int) - (bs : Int) = ((x - bs : Nat) : Int) := by omega
          obtain ⟨y, hy⟩ : ∃ y, y = x - bs := ⟨_, rfl⟩
          rw [← hy] at hws hws2 HIJ HTJ HCJ
          have hyb : y < 18446744073709551616 := by omega
          have hfy := fun W => fits_any y p W hyb hwd
          have hown : wr.ownsRow w.heap.size 34 1 u5 im.length (nv im) := hrow
          have HOWN := Lib.hid hown
          have hlb : (im.length + 1) * 8 ≤ 140737488355328 := by omega
          have hsz2 := hbw2.size
          have hjI : (j : Int) < (l.length : Int) := by omega
          clear hy hrow hown hil hcc hmg
          by_cases ho : B.bl y ≤ p
          · rw [decide_eq_true ho] at hfy
            have HF := Lib.hid hfy
            have hout : P.out p y = false := by unfold P.out; simp [ho]
            rw [hout, if_neg (by simp)] at HIJ HTJ HCJ
            clear hfy ho hout
            go_wp2_with fail
            go_quiet ((go_at_call 131; exact Calls.quiet_same (HBS.out _ (below_drewN hbw2 _))))
            go_wp2_with fail
            refine (HF.out _).mono ?_
            rintro e w2 ⟨rfl, rfl⟩
            have hb6 := below_drewN hbw2 nq
            have hown6 : (wr.drewN nq).ownsRow w.heap.size 34 1 u5 im.length (nv im) := HOWN.out
            have HOWN6 := Lib.hid hown6
            obtain ⟨w6, hw6⟩ : ∃ w6, w6 = wr.drewN nq := ⟨_, rfl⟩
            rw [← hw6] at hb6 HOWN6 ⊢
            have hb5 : w.heap.size ≤ (w6.alloc (.cells #[.int .u64 (y : Int)] 34)).heap.size := by have := hb6.size; simp; omega
            clear hown6 hw6
            go_wp2_with (at_builtin; refine wpList_append_one rfl (.tmp 38) (.tmp 40) rfl w.heap.size _ im.length _ rfl (HOWN6.out.alloc _) w6.heap.size y rfl (World.cell?_alloc_new _ _ _ _) hlb hb5 ?_)
            intro v' w5 hown5 hgrow5
            have hbw5 : Below w.heap.size w w5 := (hb6.alloc hb6.size _).grown hgrow5 (by have := hb6.size; simp; omega) (fun k hk => (HOWN6.out.lt k hk).1)
            go_wp2_with fail
            refine ⟨⟨j + 1, by omega, by go_num, ?_, by rw [HTJ.out, List.append_nil], by rw [HCJ.out, Nat.add_zero], hbw5⟩, by simp [intOf]; omega⟩
            rw [HIJ.out]; unfold NumRow; rw [List.length_append]; simpa [nv] using hown5
          · rw [decide_eq_false ho] at hfy
            have HF := Lib.hid hfy
            have hout : P.out p y = true := by unfold P.out; simp; omega
            rw [hout, if_pos rfl] at HIJ HTJ HCJ
            obtain ⟨t1, ht1⟩ : ∃ t1, t1 = str [UInt8.ofNat j] := ⟨_, rfl⟩
            obtain ⟨t2, ht2⟩ : ∃ t2, t2 = str (V.enc y) := ⟨_, rfl⟩
            obtain ⟨t0, ht0⟩ : ∃ t0, t0 = str tt := ⟨_, rfl⟩
            have hs1 : t1.size = 1 := by rw [ht1]; rfl
            have hs2 : t2.size ≤ 9 := by rw [ht2, str_size, V.enc_length]; exact V.sz_le _
            have hs0 : t0.size ≤ 640 := by rw [ht0, str_size]; exact htl
            have hcat1 : ¬ 9223372036854775807 < t1.size + t2.size := by omega
            have hcat2 : ¬ 9223372036854775807 < t0.size + (t1.size + t2.size) := by omega
            have HSUM := Lib.hid (show t0 ++ (t1 ++ t2) = str (tt ++ (UInt8.ofNat j :: V.enc y)) by rw [ht0, ht1, ht2, str_append, str_append]; rfl)
            have HOB := Lib.hid (fun W => show Calls Tryz.prog 33 #[.int .i64 (j : Int)] W (fun e w' => e = .returned (.string t1) ∧ Below W.heap.size W w') by rw [ht1]; exact one_any j W (by omega))
            have HVB := Lib.hid (fun W => show Calls Tryz.prog 15 #[.int .u64 (y : Int)] W (fun e w' => e = .returned (.string t2) ∧ Below W.heap.size W w') by rw [ht2]; exact vbytes_any y W hyb)
            rw [← ht0]
            clear hfy ho hout ht1 ht2 ht0 hs1
            go_wp2_with fail
            go_quiet ((go_at_call 131; exact Calls.quiet_same (HBS.out _ (below_drewN hbw2 _))))
            go_wp2_with fail
            refine (HF.out _).mono ?_
            rintro e w2 ⟨rfl, rfl⟩
            have hb6 := below_drewN hbw2 nq
            have hown6 : (wr.drewN nq).ownsRow w.heap.size 34 1 u5 im.length (nv im) := HOWN.out
            have HOWN6 := Lib.hid hown6
            obtain ⟨w6, hw6⟩ : ∃ w6, w6 = wr.drewN nq := ⟨_, rfl⟩
            rw [← hw6] at hb6 HOWN6 ⊢
            have hb5 : w.heap.size ≤ (w6.alloc (.cells #[.int .u64 ((0 : Nat) : Int)] 34)).heap.size := by have := hb6.size; simp; omega
            clear hown6 hw6
            go_wp2_with (at_builtin; refine wpList_append_one rfl (.tmp 42) (.tmp 43) rfl w.heap.size _ im.length _ rfl (HOWN6.out.alloc _) w6.heap.size 0 rfl (World.cell?_alloc_new _ _ _ _) hlb hb5 ?_)
            intro v' w5 hown5 hgrow5
            have hbw5 : Below w.heap.size w w5 := (hb6.alloc hb6.size _).grown hgrow5 (by have := hb6.size; simp; omega) (fun k hk => (HOWN6.out.lt k hk).1)
            have hrow5 : NumRow w.heap.size (im ++ [0]) v' w5 := by unfold NumRow; rw [List.length_append]; simpa [nv] using hown5
            have HROW5 := Lib.hid hrow5
            clear hrow5 hown5 hgrow5
            go_wp2_with fail
            refine (HOB.out _).mono ?_
            rintro e w7 ⟨rfl, hb7⟩
            go_wp2_with fail
            refine (HVB.out _).mono ?_
            rintro e w8 ⟨rfl, hb8⟩
            have hrow8 := Lib.hid ((HROW5.out.below hb7).below hb8)
            go_wp2_with fail
            exact ⟨⟨j + 1, by omega, by go_num, by rw [HIJ.out]; exact hrow8.out, by rw [HTJ.out, ← HSUM.out], by rw [HCJ.out]; simp, below_then (below_then hbw5 hb7) hb8⟩, by simp [intOf]; omega⟩
        · obtain rfl : j = l.length := by omega
          rw [HEND.out] at hrow ⊢
          obtain ⟨a5, c5, rfl, hn5⟩ := numRow_nums hrow
          have hil := HIL.out l.length (Nat.le_refl _)
          rw [HEND.out] at hil
          have htl := HTL.out l.length
          have hcl := HCL.out l.length
          rw [HEND.out] at htl hcl
          have HN5 := Lib.hid hn5
          rw [hil]
          generalize P.ins p mo = im at *
          generalize H.pkd p im = kd at *
          generalize P.tail p 0 mo = tt at *
          generalize (P.plc (P.out p) 0 mo).length = ct at *
          obtain ⟨t1, ht1⟩ : ∃ t1, t1 = str (V.enc bs) := ⟨_, rfl⟩
          obtain ⟨t2, ht2⟩ : ∃ t2, t2 = str [UInt8.ofNat p] := ⟨_, rfl⟩
          obtain ⟨t3, ht3⟩ : ∃ t3, t3 = str [UInt8.ofNat ct] := ⟨_, rfl⟩
          obtain ⟨t4, ht4⟩ : ∃ t4, t4 = str kd := ⟨_, rfl⟩
          obtain ⟨t5, ht5⟩ : ∃ t5, t5 = str tt := ⟨_, rfl⟩
          have hs1 : t1.size ≤ 9 := by rw [ht1, str_size, V.enc_length]; exact V.sz_le _
          have hs2 : t2.size ≤ 1 := by rw [ht2]; exact Nat.le_refl _
          have hs3 : t3.size ≤ 1 := by rw [ht3]; exact Nat.le_refl _
          have hs4 : t4.size ≤ 512 := by rw [ht4, str_size]; exact hkl
          have hs5 : t5.size ≤ 640 := by rw [ht5, str_size]; exact htl
          have hcat1 : ¬ 9223372036854775807 < t1.size + t2.size := by omega
          have hcat2 : ¬ 9223372036854775807 < t1.size + t2.size + t3.size := by omega
          have hcat3 : ¬ 9223372036854775807 < t1.size + t2.size + t3.size + t4.size := by omega
          have hcat4 : ¬ 9223372036854775807 < t1.size + t2.size + t3.size + t4.size + t5.size := by omega
          have HSUM := Lib.hid (show t1 ++ t2 ++ t3 ++ t4 ++ t5 = str (V.enc bs ++ [UInt8.ofNat p] ++ [UInt8.ofNat ct] ++ kd ++ tt) by rw [ht1, ht2, ht3, ht4, ht5, str_append, str_append, str_append, str_append])
          have HB0 := Lib.hid (HBS.out wr hbw2)
          have HVB := Lib.hid (fun W => show Calls Tryz.prog 15 #[.int .u64 (bs : Int)] W (fun e w' => e = .returned (.string t1) ∧ Below W.heap.size W w') by rw [ht1]; exact vbytes_any bs W hbl)
          have HO1 := Lib.hid (fun W => show Calls Tryz.prog 33 #[.int .i64 (p : Int)] W (fun e w' => e = .returned (.string t2) ∧ Below W.heap.size W w') by rw [ht2]; exact one_any p W (by omega))
          have HO2 := Lib.hid (fun W => show Calls Tryz.prog 33 #[.int .i64 (ct : Int)] W (fun e w' => e = .returned (.string t3) ∧ Below W.heap.size W w') by rw [ht3]; exact one_any ct W (by omega))
          have HPK2 := Lib.hid (fun A c' W (h : Nums W W.heap.size A im) => show Calls Tryz.prog 35 #[.slice A l.length c', .int .i64 (p : Int)] W (fun e w' => e = .returned (.string t4) ∧ Below W.heap.size W w') by rw [ht4]; exact HPK.out A c' W h)
          rw [← ht5]
          clear hrow hn5 ht1 ht2 ht3 ht4 ht5 hil
          go_wp2_with fail
          refine (HB0.out).mono ?_
          rintro e w2 ⟨rfl, rfl⟩
          go_wp2_with fail
          refine (HVB.out _).mono ?_
          rintro e w3 ⟨rfl, hb3⟩
          go_wp2_with fail
          refine (HO1.out _).mono ?_
          rintro e w4 ⟨rfl, hb4⟩
          go_wp2_with fail
          refine (HO2.out _).mono ?_
          rintro e w5 ⟨rfl, hb5⟩
          go_wp2_with fail
          refine (HPK2.out _ _ _ (HN5.out.next (below_then (below_then hb3 hb4) hb5))).mono ?_
          rintro e w6 ⟨rfl, hb6⟩
          go_wp2_with fail
          go_ret
          exact ⟨by rw [HRES.out, ← HSUM.out]; rfl, below_then hbw2 (below_then (below_then (below_then hb3 hb4) hb5) hb6)⟩
end Go.Proofs.YtcachhnhncodoaaGreat
namespace Go.Proofs.YtcachhnhncodoaaGreat
open Go.RowKit
set_option linter.unusedVariables false
theorem pbytes_length (l : List Nat) (hl : l.length ≤ 64) : (P.bytes l).length ≤ 1048576 := by
  rw [P.bytes_length, P.cost_eq, P.more_length]
  have h1 := V.sz_le (P.base l)
  have h2 := P.extra_le (P.best (P.more l)) (P.more l)
  rw [P.more_length] at h2
  have h3 := Nat.mul_le_mul hl (P.best_le (P.more l))
  unfold B.sz; omega
end Go.Proofs.YtcachhnhncodoaaGreat
namespace Go.Proofs.YtcachhnhncodoaaGreat
open Go.RowKit
set_option linter.unusedVariables false
def bw (n : Nat) : Nat := if n ≤ 1 then 0 else B.bl (n - 1)
set_option maxHeartbeats 1000000 in
theorem bookWidth_any (n : Nat) (w : World) (hn : n ≤ 64) :
    Calls Tryz.prog 104 #[.int .i64 n] w fun e w' => e = .returned (.int .i64 (bw n : Nat)) ∧ w = w' := by
  by_cases h1 : n ≤ 1
  · have HR := Lib.hid (show bw n = 0 from if_pos h1)
    have g1 : decide ((1 : Int) < (n : Int)) = false := decide_eq_false (by omega)
    clear h1
    go_enter Tryz.func104, Tryz.ntmps104
    go_wp2_with fail
    refine wp_loop_rounds 1 ?_
    rw [rounds_succ]
    go_wp2_with fail
    go_ret
    exact ⟨by rw [HR.out]; rfl, rfl⟩
  · obtain ⟨q, hq⟩ : ∃ q, n = q + 1 := ⟨n - 1, by omega⟩
    subst hq
    have HR := Lib.hid (show bw (q + 1) = B.bl q by unfold bw; rw [if_neg h1, Nat.add_sub_cancel])
    have hbl : B.bl q ≤ 64 := (B.bl_le q 64).2 (by omega)
    have HF := Lib.hid (fun k (hk : k ≤ 64) => fits_any q k w (by omega) hk)
    generalize B.bl q = m at *
    obtain ⟨N, hN⟩ : ∃ N : Int, N = ((q + 1 : Nat) : Int) := ⟨_, rfl⟩
    have g1 : decide ((1 : Int) < N) = true := decide_eq_true (by omega)
    have hw1 : IntKind.i64.wrap (N - 1) = (q : Int) := by rw [IntKind.wrap_i64]; omega
    have hw2 : IntKind.u64.wrap (q : Int) = (q : Int) := by rw [IntKind.wrap_u64]; omega
    rw [← hN]
    clear hN hn
    clear h1
    go_enter Tryz.func104, Tryz.ntmps104
    go_wp2_with fail
    go_loop [3] (fun i => ∃ k : Nat, Hid (k ≤ m) ∧ i = .int .i64 k) (fun i => m - (intOf i).toNat)
    case atStart => exact ⟨0, Lib.hid (by omega), rfl⟩
    case round =>
      obtain ⟨k, HKM, rfl⟩ := hrel
      have hk := HKM.out
      have HFK := Lib.hid (HF.out k (by omega))
      by_cases hlt : k < m
      · have hd : decide (m ≤ k) = false := decide_eq_false (by omega)
        rw [hd] at HFK
        go_wp2_with fail
        refine (HFK.out).mono ?_
        rintro e w1 ⟨rfl, rfl⟩
        go_wp2_with fail
        exact ⟨⟨k + 1, Lib.hid (by omega), by go_num⟩, by simp [intOf]; omega⟩
      · obtain rfl : k = m := by omega
        rw [decide_eq_true (Nat.le_refl k)] at HFK
        go_wp2_with fail
        refine (HFK.out).mono ?_
        rintro e w1 ⟨rfl, rfl⟩
        go_wp2_with fail
        go_ret
        exact ⟨by rw [HR.out]; rfl, rfl⟩
def nbW (way : Nat) (l : List Nat) : List UInt8 :=
  if way = 1 then [1] ++ [UInt8.ofNat (B.wd l)] ++ B.le (B.sz (l.length * B.wd l)) (B.pk (B.wd l) l)
  else if way = 2 then [2] ++ [UInt8.ofNat (B.wd l)] ++ H.bytes (B.wd l) l
  else if way = 3 then [3] ++ dbytes l else [4] ++ P.bytes l
theorem dbytes_len (l : List Nat) (hl : l.length ≤ 64) (hx : ∀ x ∈ l, x < 18446744073709551616) : (dbytes l).length ≤ 1048576 := by
  unfold dbytes
  by_cases h : l = []
  · rw [if_pos h]; simp
  · rw [if_neg h]
    have h1 := V.sz_le (l.headD 0)
    have h2 := H.bytes_len (B.wd (dz l)) (dz l)
    have h3 := dz_length l
    have h4 : B.wd (dz l) ≤ 64 := B.wd_64 _ (dz_lt l hx)
    have h5 : (18 + B.wd (dz l)) * (dz l).length ≤ 82 * 64 := Nat.mul_le_mul (by omega) (by omega)
    simp only [List.length_append, V.enc_length, List.length_cons, List.length_nil]
    omega
theorem text_cat (x y : List UInt8) : str x ++ str y = str (x ++ y) := str_append x y
set_option maxHeartbeats 2000000 in
set_option maxRecDepth 100000 in
theorem numberBytes_any (way : Nat) (a : Option Addr) (c : Nat) (l : List Nat) (w : World) (hway : 1 ≤ way ∧ way ≤ 4) (hl : l.length ≤ 64) (hcap : l.length ≤ c) (hcm : c ≤ maxLen) (hx : ∀ x ∈ l, x < 18446744073709551616) (hu : Nums w w.heap.size a l) :
    Calls Tryz.prog 68 #[.slice a l.length c, .int .i64 way] w (TextPost (nbW way l) w) := by
  have hW := rwidth_any a c l w _ (by unfold maxLen; omega) hx hu
  have hwd : B.wd l ≤ 64 := B.wd_64 l hx
  have hfit := (B.wd_le l (B.wd l)).1 (Nat.le_refl _)
  have HW := Lib.hid hW
  have HO := Lib.hid (fun n W (h : n < 9223372036854775807) => one_any n W h)
  have HPK := Lib.hid (fun W (hb : Below w.heap.size w W) => packed_any a c l (B.wd l) W hl hwd hfit hx (hu.next hb))
  have HHY := Lib.hid (fun W (hb : Below w.heap.size w W) => hbytes_any a c l (B.wd l) W (by omega) hcap hcm hwd hfit (hu.next hb))
  have HDL := Lib.hid (fun W (hb : Below w.heap.size w W) => rdbytes_any a c l W (by omega) hx (hu.next hb))
  have HPA := Lib.hid (fun W (hb : Below w.heap.size w W) => rpatch_any a c l W hl hx (hu.next hb))
  have b1 : (B.le (B.sz (l.length * B.wd l)) (B.pk (B.wd l) l)).length ≤ 1048576 := by
    rw [B.le_length]; unfold B.sz
    have := Nat.mul_le_mul hl hwd
    omega
  have b2 : (H.bytes (B.wd l) l).length ≤ 1048576 := by
    have := H.bytes_len (B.wd l) l
    have h5 : (18 + B.wd l) * l.length ≤ 82 * 64 := Nat.mul_le_mul (by omega) hl
    omega
  have b3 := dbytes_len l hl hx
  have b4 := pbytes_length l hl
  obtain ⟨h1, h2⟩ := hway
  have hway4 : way = 1 ∨ way = 2 ∨ way = 3 ∨ way = 4 := by omega
  rcases hway4 with rfl | rfl | rfl | rfl
  · have HR := Lib.hid (show str (nbW 1 l) = str [1] ++ str [UInt8.ofNat (B.wd l)] ++ str (B.le (B.sz (l.length * B.wd l)) (B.pk (B.wd l) l)) by rw [text_cat, text_cat]; rfl)
    have HO1 := Lib.hid (show ∀ W, Calls Tryz.prog 33 #[.int .i64 1] W (TextPost [1] W) from fun W => HO.out 1 W (by omega))
    have HO2 := Lib.hid (fun W => HO.out (B.wd l) W (by omega))
    have s1 := str_size [1]
    have s2 := str_size [UInt8.ofNat (B.wd l)]
    have s3 := str_size (B.le (B.sz (l.length * B.wd l)) (B.pk (B.wd l) l))
    unfold TextPost at HO1 HO2 HPK ⊢
    generalize str (nbW 1 l) = R at *
    generalize B.wd l = wd at *
    generalize str [1] = t1 at *
    generalize str [UInt8.ofNat wd] = t2 at *
    generalize str (B.le (B.sz (l.length * wd)) (B.pk wd l)) = t3 at *
    simp only [List.length_cons, List.length_nil] at s1 s2
    have c1 : ¬ 9223372036854775807 < t1.size + t2.size := by omega
    have c2 : ¬ 9223372036854775807 < t1.size + t2.size + t3.size := by omega
    clear HO HHY HDL HPA hW hfit b1 b2 b3 b4 s1 s2 s3 hx hu
    go_enter Tryz.func68, Tryz.ntmps68
    go_wp2_with fail
    refine (HW.out).mono ?_
    rintro e w1 ⟨rfl, rfl⟩
    go_wp2_with fail
    refine (HO1.out _).mono ?_
    rintro e w2 ⟨rfl, hb2⟩
    go_wp2_with fail
    refine (HO2.out _).mono ?_
    rintro e w3 ⟨rfl, hb3⟩
    have h3 := below_then hb2 hb3
    go_wp2_with fail
    refine (HPK.out _ h3).mono ?_
    rintro e w4 ⟨rfl, hb4⟩
    go_wp2_with fail
    go_ret
    exact ⟨by rw [HR.out]; rfl, below_then h3 hb4⟩
  · have HR := Lib.hid (show str (nbW 2 l) = str [2] ++ str [UInt8.ofNat (B.wd l)] ++ str (H.bytes (B.wd l) l) by rw [text_cat, text_cat]; rfl)
    have HO1 := Lib.hid (show ∀ W, Calls Tryz.prog 33 #[.int .i64 2] W (TextPost [2] W) from fun W => HO.out 2 W (by omega))
    have HO2 := Lib.hid (fun W => HO.out (B.wd l) W (by omega))
    have s1 := str_size [2]
    have s2 := str_size [UInt8.ofNat (B.wd l)]
    have s3 := str_size (H.bytes (B.wd l) l)
    unfold TextPost at HO1 HO2 HHY ⊢
    generalize str (nbW 2 l) = R at *
    generalize B.wd l = wd at *
    generalize str [2] = t1 at *
    generalize str [UInt8.ofNat wd] = t2 at *
    generalize str (H.bytes wd l) = t3 at *
    simp only [List.length_cons, List.length_nil] at s1 s2
    have c1 : ¬ 9223372036854775807 < t1.size + t2.size := by omega
    have c2 : ¬ 9223372036854775807 < t1.size + t2.size + t3.size := by omega
    clear HO HPK HDL HPA hW hfit b1 b2 b3 b4 s1 s2 s3 hx hu
    go_enter Tryz.func68, Tryz.ntmps68
    go_wp2_with fail
    refine (HW.out).mono ?_
    rintro e w1 ⟨rfl, rfl⟩
    go_wp2_with fail
    refine (HO1.out _).mono ?_
    rintro e w2 ⟨rfl, hb2⟩
    go_wp2_with fail
    refine (HO2.out _).mono ?_
    rintro e w3 ⟨rfl, hb3⟩
    have h3 := below_then hb2 hb3
    go_wp2_with fail
    refine (HHY.out _ h3).mono ?_
    rintro e w4 ⟨rfl, hb4⟩
    go_wp2_with fail
    go_ret
    exact ⟨by rw [HR.out]; rfl, below_then h3 hb4⟩
  · have HR := Lib.hid (show str (nbW 3 l) = str [3] ++ str (dbytes l) by rw [text_cat]; rfl)
    have HO1 := Lib.hid (show ∀ W, Calls Tryz.prog 33 #[.int .i64 3] W (TextPost [3] W) from fun W => HO.out 3 W (by omega))
    have s1 := str_size [3]
    have s3 := str_size (dbytes l)
    unfold TextPost at HO1 HDL ⊢
    generalize str (nbW 3 l) = R at *
    generalize str [3] = t1 at *
    generalize str (dbytes l) = t3 at *
    simp only [List.length_cons, List.length_nil] at s1
    have c1 : ¬ 9223372036854775807 < t1.size + t3.size := by omega
    clear HO HPK HHY HPA hW hfit b1 b2 b3 b4 s1 s3 hx hu
    go_enter Tryz.func68, Tryz.ntmps68
    go_wp2_with fail
    refine (HW.out).mono ?_
    rintro e w1 ⟨rfl, rfl⟩
    go_wp2_with fail
    refine (HO1.out _).mono ?_
    rintro e w2 ⟨rfl, hb2⟩
    go_wp2_with fail
    refine (HDL.out _ hb2).mono ?_
    rintro e w4 ⟨rfl, hb4⟩
    go_wp2_with fail
    go_ret
    exact ⟨by rw [HR.out]; rfl, below_then hb2 hb4⟩
  · have HR := Lib.hid (show str (nbW 4 l) = str [4] ++ str (P.bytes l) by rw [text_cat]; rfl)
    have HO1 := Lib.hid (show ∀ W, Calls Tryz.prog 33 #[.int .i64 4] W (TextPost [4] W) from fun W => HO.out 4 W (by omega))
    have s1 := str_size [4]
    have s3 := str_size (P.bytes l)
    unfold TextPost at HO1 HPA ⊢
    generalize str (nbW 4 l) = R at *
    generalize str [4] = t1 at *
    generalize str (P.bytes l) = t3 at *
    simp only [List.length_cons, List.length_nil] at s1
    have c1 : ¬ 9223372036854775807 < t1.size + t3.size := by omega
    clear HO HPK HHY HDL hW hfit b1 b2 b3 b4 s1 s3 hx hu
    go_enter Tryz.func68, Tryz.ntmps68
    go_wp2_with fail
    refine (HW.out).mono ?_
    rintro e w1 ⟨rfl, rfl⟩
    go_wp2_with fail
    refine (HO1.out _).mono ?_
    rintro e w2 ⟨rfl, hb2⟩
    go_wp2_with fail
    refine (HPA.out _ hb2).mono ?_
    rintro e w4 ⟨rfl, hb4⟩
    go_wp2_with fail
    go_ret
    exact ⟨by rw [HR.out]; rfl, below_then hb2 hb4⟩
end Go.Proofs.YtcachhnhncodoaaGreat
namespace Go.Proofs.YtcachhnhncodoaaGreat
open Go.RowKit
set_option linter.unusedVariables false
theorem str_inj {a b : List UInt8} (h : str a = str b) : a = b := by
  have := congrArg (fun s : ByteArray => s.data.toList) h
  simpa [str] using this
theorem less_eq (a b : List UInt8) : Op.bytesLess (str a).toList (str b).toList = decide (a < b) := by
  rw [str_toList, str_toList]; exact Go.Proofs.bytesLess_eq a b
theorem str_at (x : List UInt8) (i : Nat) (h : i < (str x).size) (h2 : i < x.length) : (str x)[i] = x[i] := by
  simp [str, ByteArray.getElem_eq_getElem_data]
theorem tl_eq (x y : List UInt8) : ((str x).toList == (str y).toList) = decide (x = y) := by
  rw [str_toList, str_toList]
  by_cases h : x = y
  · subst h; simp
  · simp [h]
end Go.Proofs.YtcachhnhncodoaaGreat
namespace Go.Proofs.YtcachhnhncodoaaGreat
open Go.RowKit
set_option linter.unusedVariables false
def tv (l : List (List UInt8)) : List Value := l.map fun x => Value.string (str x)
theorem tv_length (l : List (List UInt8)) : (tv l).length = l.length := by simp [tv]
theorem info_str : (Tryz.prog.info? 9).map (fun i => (i.zero, i.size, i.bytes)) = some (some (.string ByteArray.empty), 1, 16) := by kernel_rfl
def Txts (w : World) (B : Nat) (a : Option Addr) (l : List (List UInt8)) : Prop :=
  l ≠ [] → ∃ b off, a = some ⟨b, off, none⟩ ∧ b < B ∧ ∀ i, i < l.length → w.cell? ⟨b, off + i, none⟩ = some (.string (str (l.getD i [])))
theorem Txts.below {w w' : World} {B : Nat} {a : Option Addr} {l : List (List UInt8)} (h : Txts w B a l) (hb : Below B w w') : Txts w' B a l := by
  intro hl
  obtain ⟨b, off, e, hlt, hc⟩ := h hl
  exact ⟨b, off, e, hlt, fun i hi => by rw [hb.cell (p := ⟨b, off + i, none⟩) hlt]; exact hc i hi⟩
theorem Txts.mono {w : World} {B B' : Nat} {a : Option Addr} {l : List (List UInt8)} (h : Txts w B a l) (hB : B ≤ B') : Txts w B' a l := by
  intro hl
  obtain ⟨b, off, e, hlt, hc⟩ := h hl
  exact ⟨b, off, e, by omega, hc⟩
theorem Txts.nil (w : World) (B : Nat) (a : Option Addr) : Txts w B a [] := fun h => absurd rfl h
theorem Txts.next {w w' : World} {a : Option Addr} {l : List (List UInt8)} (h : Txts w w.heap.size a l) (hb : Below w.heap.size w w') : Txts w' w'.heap.size a l := (h.below hb).mono hb.size
def TRow (B : Nat) (xs : List (List UInt8)) (v : Value) (wr : World) : Prop := wr.ownsRow B 9 1 v xs.length (tv xs)
theorem tRow_txts {B : Nat} {xs : List (List UInt8)} {v : Value} {w : World} (h : TRow B xs v w) : ∃ a c, v = .slice a xs.length c ∧ Txts w w.heap.size a xs ∧ xs.length ≤ c ∧ c ≤ maxLen := by
  unfold TRow at h
  rcases h.2 with ⟨rfl, h0⟩ | ⟨g, cap, cur, rfl, e2, e3, e4, e5, e6⟩
  · refine ⟨none, 0, by rw [h0], ?_, by omega, by unfold maxLen; omega⟩
    rw [List.eq_nil_of_length_eq_zero h0]; exact Txts.nil _ _ _
  · refine ⟨some ⟨g, 0, none⟩, cap, rfl, fun _ => ⟨g, 0, rfl, lt_of_block e3, fun i hi => ?_⟩, e4, e5⟩
    rw [Nat.zero_add, h.cellAt i (by omega)]
    simp [tv, List.getElem?_eq_getElem hi]
theorem TRow.below {B : Nat} {xs : List (List UInt8)} {v : Value} {w w' : World} (h : TRow B xs v w) (hb : Below w.heap.size w w') : TRow B xs v w' := row_below h hb
theorem TRow.alloc_ {B : Nat} {xs : List (List UInt8)} {v : Value} {w : World} (h : TRow B xs v w) (o : Obj) : TRow B xs v (w.alloc o) := World.ownsRow.alloc h o
theorem tnilRow (B : Nat) (w : World) : TRow B [] (.slice none 0 0) w := ⟨rfl, Or.inl ⟨rfl, rfl⟩⟩
theorem TRow.form {B : Nat} {xs : List (List UInt8)} {a : Option Addr} {n c : Nat} {w : World} (h : TRow B xs (.slice a n c) w) (hne : xs ≠ []) : ∃ g, a = some ⟨g, 0, none⟩ ∧ n = xs.length ∧ B ≤ g ∧ g < w.heap.size := by
  unfold TRow at h
  rcases h.2 with ⟨he, h0⟩ | ⟨g, cap, cur, he, e2, e3, e4⟩
  · exact absurd (List.eq_nil_of_length_eq_zero h0) hne
  · injection he with h1 h2 h3
    exact ⟨g, h1, h2, e2, lt_of_block e3⟩
theorem TRow.cell {B : Nat} {xs : List (List UInt8)} {g n c : Nat} {w : World} (h : TRow B xs (.slice (some ⟨g, 0, none⟩) n c) w) (i : Nat) (hi : i < xs.length) : w.cell? ⟨g, i, none⟩ = some (.string (str (xs.getD i []))) := by
  obtain ⟨a', c', e, _⟩ := tRow_txts h
  injection e with e1 e2 e3
  subst e2
  unfold TRow at h
  rw [h.cellAt i (by omega)]
  simp [tv, List.getElem?_eq_getElem hi]
theorem TRow.free {B : Nat} {xs : List (List UInt8)} {g n c : Nat} {w : World} (h : TRow B xs (.slice (some ⟨g, 0, none⟩) n c) w) (i : Nat) : w.frozen? ⟨g, i, none⟩ = false := by
  obtain ⟨a', c', e, _⟩ := tRow_txts h
  injection e with e1 e2 e3
  subst e2
  exact h.frozenAt i
theorem wpList_append_onet {w : World} {ops : Array Oper} {rest : List Oper} {o : Oper} {a : Act} {Q : Exit → Act → World → Prop} (hgd : o.guard = none) (s x : Operand)
    (ho : o.op = .call { callee := .builtin .append, args := #[s, x], argTypes := #[66, 66] }) (base : Nat)
    (v : Value) (xs : List (List UInt8)) (hs : a.eval s = v) (hown : TRow base xs v w)
    (g : Nat) (y : List UInt8) (hx : a.eval x = .slice (some ⟨g, 0, none⟩) 1 1) (hc : w.cell? ⟨g, 0, none⟩ = some (.string (str y)))
    (hbytes : (xs.length + 1) * 16 ≤ 140737488355328) (hbase : base ≤ w.heap.size)
    (h : ∀ v' w', TRow base (xs ++ [y]) v' w' → Below base w w' → wpList Tryz.prog ops Q rest (a.put o.dst v') w') : wpList Tryz.prog ops Q (o :: rest) a w := by
  obtain ⟨i, hi, hz0, hz1, hz2⟩ := info_parts info_str
  refine wpList_append_own w hgd s x 66 ho base 9 i (.string ByteArray.empty) 1 16 Tryz.underlying66 hi hz0 hz1 hz2 rfl (by decide) v xs.length (tv xs) hs hown ⟨g, 0, none⟩ 1 1 [.string (str y)] hx rfl ?_ ?_ (by unfold maxLen; omega) hbytes hbase (fun v' w' h1 h2 _ => h v' w' ?_ ?_)
  · intro j u hj
    match j, hj with
    | 0, hj => simp at hj; subst hj; simpa [Addr.add] using hc
  · intro u hu; simp at hu; subst hu; rfl
  · unfold TRow; rw [List.length_append]; simpa [tv] using h1
  · exact (Below.refl base w).grown h2 hbase (fun k hk => (hown.lt k hk).1)
theorem tgetD_mem (l : List (List UInt8)) (k : Nat) (hk : k < l.length) : l.getD k [] ∈ l := by
  simp only [List.getD, List.getElem?_eq_getElem hk, Option.getD_some]
  exact List.getElem_mem hk
theorem ttake_succ (l : List (List UInt8)) (k : Nat) (h : k < l.length) : l.take (k + 1) = l.take k ++ [l.getD k []] := by
  rw [List.take_succ_eq_append_getElem h]; simp [List.getD, List.getElem?_eq_getElem h]
end Go.Proofs.YtcachhnhncodoaaGreat
namespace Go.Proofs.YtcachhnhncodoaaGreat.T
set_option linter.unusedVariables false
abbrev Tx := List UInt8
def Up (b : List Tx) : Prop := b.Pairwise (· < ·)
theorem lt_irr (a : Tx) : ¬ a < a := List.lt_irrefl a
theorem lt_tr {a b c : Tx} (h1 : a < b) (h2 : b < c) : a < c := List.lt_trans h1 h2
theorem not_lt {a b : Tx} : ¬ a < b ↔ b ≤ a := Iff.rfl
theorem lt_of_le_ne {a b : Tx} (h : a ≤ b) (hne : a ≠ b) : a < b := by
  rcases Classical.em (a < b) with h1 | h1
  · exact h1
  · exact absurd (List.le_antisymm h h1) hne
theorem le_of_lt {a b : Tx} (h : a < b) : a ≤ b := fun h2 => lt_irr a (lt_tr h h2)
theorem le_lt {a b c : Tx} (h1 : a ≤ b) (h2 : b < c) : a < c := by
  rcases Classical.em (a = b) with e | e
  · rw [e]; exact h2
  · exact lt_tr (lt_of_le_ne h1 e) h2
theorem tri (a b : Tx) : a < b ∨ a = b ∨ b < a := by
  rcases Classical.em (a < b) with h | h
  · exact Or.inl h
  · rcases Classical.em (b < a) with h2 | h2
    · exact Or.inr (Or.inr h2)
    · exact Or.inr (Or.inl (List.le_antisymm h2 h))
def bk (l : List Tx) : List Tx := Lib.compact (l.mergeSort fun x y => decide (x ≤ y))
theorem compact_up (s : List Tx) (hs : s.Pairwise (· ≤ ·)) : Up (Lib.compact s) ∧ ∀ x, x ∈ Lib.compact s ↔ x ∈ s := by
  have get : ∀ j (h : j < s.length), s.toArray[j]! = s[j] := fun j h => by simp [h]
  have hle : ∀ i j (hi : i < s.length) (hj : j < s.length), i ≤ j → s[i] ≤ s[j] := by
    intro i j hi hj hij
    rcases Nat.lt_or_eq_of_le hij with h | h
    · exact List.pairwise_iff_getElem.1 hs i j hi hj h
    · subst h; exact lt_irr _
  have main : ∀ m, m ≤ s.length → Up (Lib.compactUpTo s.toArray m) ∧ ∀ x, x ∈ Lib.compactUpTo s.toArray m ↔ ∃ j, ∃ h : j < s.length, j < m ∧ s[j] = x := by
    intro m
    induction m with
    | zero => intro _; refine ⟨by simp [Lib.compactUpTo, Up], fun x => by simp [Lib.compactUpTo]⟩
    | succ m ih =>
      intro hm
      obtain ⟨h1, h2⟩ := ih (by omega)
      rw [Lib.compactUpTo_succ, get m (by omega)]
      by_cases hk : Lib.keeps s.toArray m = true
      · rw [if_pos hk]
        have hk' : m = 0 ∨ s[m] ≠ s[m - 1] := by
          unfold Lib.keeps at hk
          rw [decide_eq_true_iff, get m (by omega), get (m - 1) (by omega)] at hk
          exact hk
        refine ⟨?_, fun x => ?_⟩
        · refine List.pairwise_append.2 ⟨h1, by simp, fun x hx y hy => ?_⟩
          obtain rfl : y = s[m] := by simpa using hy
          obtain ⟨j, hj, hjm, rfl⟩ := (h2 x).1 hx
          rcases hk' with h | h
          · omega
          · have a1 := hle j (m - 1) hj (by omega) (by omega)
            have a2 := hle (m - 1) m (by omega) (by omega) (by omega)
            exact le_lt a1 (lt_of_le_ne a2 (fun e => h e.symm))
        · rw [List.mem_append, h2 x]
          constructor
          · rintro (⟨j, hj, hjm, rfl⟩ | h)
            · exact ⟨j, hj, by omega, rfl⟩
            · exact ⟨m, by omega, by omega, (by simpa using h : x = s[m]).symm⟩
          · rintro ⟨j, hj, hjm, rfl⟩
            by_cases e : j = m
            · subst e; exact Or.inr (by simp)
            · exact Or.inl ⟨j, hj, by omega, rfl⟩
      · rw [if_neg hk, List.append_nil]
        refine ⟨h1, fun x => ?_⟩
        have hk' : m ≠ 0 ∧ s[m] = s[m - 1] := by
          unfold Lib.keeps at hk
          rw [decide_eq_true_iff, get m (by omega), get (m - 1) (by omega)] at hk
          exact ⟨fun e => hk (Or.inl e), Classical.byContradiction fun e => hk (Or.inr e)⟩
        rw [h2 x]
        constructor
        · rintro ⟨j, hj, hjm, rfl⟩; exact ⟨j, hj, by omega, rfl⟩
        · rintro ⟨j, hj, hjm, rfl⟩
          by_cases e : j = m
          · subst e; exact ⟨j - 1, by omega, by have := hk'.1; omega, hk'.2.symm⟩
          · exact ⟨j, hj, by omega, rfl⟩
  have h := main s.length (Nat.le_refl _)
  unfold Lib.compact
  refine ⟨h.1, fun x => ?_⟩
  rw [h.2 x]
  constructor
  · rintro ⟨j, hj, _, rfl⟩; exact List.getElem_mem hj
  · intro hx
    obtain ⟨j, hj, e⟩ := List.mem_iff_getElem.1 hx
    exact ⟨j, hj, hj, e⟩
theorem sorted (l : List Tx) : (l.mergeSort fun x y => decide (x ≤ y)).Pairwise (· ≤ ·) := by
  have tr : ∀ a b c : Tx, decide (a ≤ b) = true → decide (b ≤ c) = true → decide (a ≤ c) = true := fun a b c h1 h2 => by
    rw [decide_eq_true_iff] at *; exact List.le_trans h1 h2
  have to : ∀ a b : Tx, (decide (a ≤ b) || decide (b ≤ a)) = true := fun a b => by
    rw [Bool.or_eq_true, decide_eq_true_iff, decide_eq_true_iff]; exact List.le_total a b
  exact (List.pairwise_mergeSort tr to l).imp (fun h => by simpa using h)
theorem bk_up (l : List Tx) : Up (bk l) := (compact_up _ (sorted l)).1
theorem bk_mem (l : List Tx) (x : Tx) : x ∈ bk l ↔ x ∈ l := by
  unfold bk
  rw [(compact_up _ (sorted l)).2 x]
  exact (List.mergeSort_perm l _).mem_iff
theorem up_get {b : List Tx} (h : Up b) {i j : Nat} (hi : i < b.length) (hj : j < b.length) (hij : i < j) : b[i] < b[j] := List.pairwise_iff_getElem.1 h i j hi hj hij
theorem up_inj {b : List Tx} (h : Up b) {i j : Nat} (hi : i < b.length) (hj : j < b.length) (e : b[i] = b[j]) : i = j := by
  rcases Nat.lt_trichotomy i j with hh | hh | hh
  · have := up_get h hi hj hh; rw [e] at this; exact absurd this (lt_irr _)
  · exact hh
  · have := up_get h hj hi hh; rw [e] at this; exact absurd this (lt_irr _)
theorem up_lt {b : List Tx} (h : Up b) {i j : Nat} (hi : i < b.length) (hj : j < b.length) : b[i] < b[j] ↔ i < j := by
  constructor
  · intro hh
    rcases Nat.lt_trichotomy i j with k | k | k
    · exact k
    · subst k; exact absurd hh (lt_irr _)
    · exact absurd (lt_tr hh (up_get h hj hi k)) (lt_irr _)
  · exact up_get h hi hj
theorem up_nodup {b : List Tx} (h : Up b) : b.Nodup := h.imp (fun {a c} hh e => by rw [e] at hh; exact lt_irr _ hh)
def plc (b : List Tx) (x : Tx) : Nat := b.findIdx fun y => !decide (y < x)
theorem plc_le (b : List Tx) (x : Tx) : plc b x ≤ b.length := List.findIdx_le_length
theorem plc_at {b : List Tx} (h : Up b) {i : Nat} (hi : i < b.length) : plc b b[i] = i := by
  unfold plc
  rw [List.findIdx_eq hi]
  refine ⟨by simp [lt_irr], fun j hj => ?_⟩
  have := up_get h (by omega) hi hj
  simp [this]
theorem plc_mem {b : List Tx} (h : Up b) {x : Tx} (hx : x ∈ b) : plc b x < b.length ∧ b.getD (plc b x) [] = x := by
  obtain ⟨i, hi, rfl⟩ := List.mem_iff_getElem.1 hx
  rw [plc_at h hi]
  exact ⟨hi, by simp [List.getD, List.getElem?_eq_getElem hi]⟩
theorem plc_lt {b : List Tx} (h : Up b) {x y : Tx} (hx : x ∈ b) (hy : y ∈ b) : plc b x < plc b y ↔ x < y := by
  obtain ⟨i, hi, rfl⟩ := List.mem_iff_getElem.1 hx
  obtain ⟨j, hj, rfl⟩ := List.mem_iff_getElem.1 hy
  rw [plc_at h hi, plc_at h hj, up_lt h hi hj]
end Go.Proofs.YtcachhnhncodoaaGreat.T
namespace Go.Proofs.YtcachhnhncodoaaGreat
open Go.RowKit
set_option linter.unusedVariables false
theorem idx_step (p : List UInt8 → Bool) (l : List (List UInt8)) (j : Nat) (h : j < l.length) : (l.drop j).findIdx p = if p (l.getD j []) then 0 else (l.drop (j + 1)).findIdx p + 1 := by
  rw [List.drop_eq_getElem_cons h, List.findIdx_cons]
  have e : l.getD j [] = l[j] := by simp [List.getD, List.getElem?_eq_getElem h]
  rw [e]
  cases p l[j] <;> rfl
def long (x : List UInt8) : Bool := decide (16 < x.length)
def fitR (l : List (List UInt8)) : Nat := if 64 < l.length ∨ l.findIdx long < l.length then 2 else 0
def Fits (l : List (List UInt8)) (k : Nat) : Prop := ∀ i, i < k → (l.getD i []).length ≤ 16
theorem Fits.succ {l : List (List UInt8)} {k : Nat} (h : Fits l k) (hk : (l.getD k []).length ≤ 16) : Fits l (k + 1) := by
  intro i hi
  by_cases e : i = k
  · rw [e]; exact hk
  · exact h i (by omega)
theorem Fits.all {l : List (List UInt8)} (h : Fits l l.length) : fitR l = if 64 < l.length then 2 else 0 := by
  unfold fitR
  have : ¬ l.findIdx long < l.length := fun hh => by
    have h3 := List.findIdx_getElem (w := hh)
    have h4 := h _ hh
    simp only [List.getD, List.getElem?_eq_getElem hh, Option.getD_some] at h4
    simp [long] at h3
    omega
  simp [this]
theorem fit_long {l : List (List UInt8)} {k : Nat} (hk : k < l.length) (h : 16 < (l.getD k []).length) : fitR l = 2 := by
  unfold fitR
  rw [if_pos]
  refine Or.inr (List.findIdx_lt_length_of_exists ⟨l.getD k [], tgetD_mem l k hk, by simpa [long] using h⟩)
set_option maxHeartbeats 1000000 in
set_option maxRecDepth 100000 in
theorem many_any (a : Option Addr) (c : Nat) (l : List (List UInt8)) (w : World) (hm : l.length ≤ maxLen) (hu : Txts w w.heap.size a l) :
    Calls Tryz.prog 184 #[.slice a l.length c] w fun e w' => e = .returned (.bool (decide (fitR l ≠ 0))) ∧ w = w' := by
  unfold maxLen at hm
  have HU := Lib.hid hu
  have HFA := Lib.hid (fun (h : Fits l l.length) => h.all)
  have HFL := Lib.hid (fun k hk h => fit_long (l := l) (k := k) hk h)
  generalize fitR l = R at *
  clear hu
  go_enter Tryz.func184, Tryz.ntmps184
  go_wp2_with fail
  go_loop [3] (fun i => ∃ k : Nat, k ≤ l.length ∧ i = .int .i64 k ∧ Hid (Fits l k)) (fun i => l.length - (intOf i).toNat)
  case atStart => exact ⟨0, by omega, rfl, Lib.hid (fun i hi => absurd hi (by omega))⟩
  case round =>
    obtain ⟨k, hk, rfl, HF⟩ := hrel
    by_cases hlt : k < l.length
    · obtain ⟨b, off, rfl, hb, hcc⟩ := HU.out (fun e => by rw [e] at hlt; simp at hlt)
      have ck := hcc k hlt
      have HSU := Lib.hid (fun h => HF.out.succ h)
      have HLG := Lib.hid (fun h => HFL.out k hlt h)
      have hs := str_size (l.getD k [])
      generalize l.getD k [] = x at *
      generalize str x = X at *
      have hkI : (k : Int) < (l.length : Int) := by omega
      clear hcc
      by_cases hlo : 16 < X.size
      · have g1 : decide ((16 : Int) < (X.size : Int)) = true := decide_eq_true (by omega)
        have HR := Lib.hid (HLG.out (by omega))
        clear hs hlo
        go_wp2_with fail
        go_ret
        exact ⟨by rw [HR.out]; rfl, rfl⟩
      · have g1 : decide ((16 : Int) < (X.size : Int)) = false := decide_eq_false (by omega)
        have HN := Lib.hid (HSU.out (by omega))
        clear hs hlo
        go_wp2_with fail
        exact ⟨⟨k + 1, by omega, by go_num, HN⟩, by simp [intOf]; omega⟩
    · obtain rfl : k = l.length := by omega
      have HE := Lib.hid (HFA.out HF.out)
      go_wp2_with fail
      go_ret
      refine ⟨?_, rfl⟩
      rw [HE.out]
      by_cases h : 64 < l.length
      · simp [h]; omega
      · simp [h]; omega
end Go.Proofs.YtcachhnhncodoaaGreat
namespace Go.Proofs.YtcachhnhncodoaaGreat
open Go.RowKit
set_option linter.unusedVariables false
theorem str_eta (s : ByteArray) : str s.data.toList = s := by simp [str]
theorem less_or (a b : List UInt8) : (Op.bytesLess (str a).toList (str b).toList || (str a).toList == (str b).toList) = !decide (b < a) := by
  rw [less_eq, str_toList, str_toList]
  by_cases h : b < a
  · have h1 : ¬ a < b := fun h2 => T.lt_irr a (T.lt_tr h2 h)
    have h2 : ¬ a = b := fun e => by rw [e] at h; exact T.lt_irr b h
    simp [h, h1, h2]
  · rcases T.tri a b with h1 | h1 | h1
    · simp [h, h1]
    · subst h1; simp [T.lt_irr]
    · exact absurd h1 h
set_option maxHeartbeats 400000 in
theorem longc_any (x : List UInt8) (w : World) :
    Calls Tryz.prog 202 #[.string (str x)] w fun e w' => e = .returned (.bool (long x)) ∧ w = w' := by
  have hs := str_size x
  have HL := Lib.hid (show long x = decide (16 < (str x).size) by rw [hs]; rfl)
  generalize str x = s at *
  clear hs
  go_enter Tryz.func202, Tryz.ntmps202
  go_wp2_with fail
  go_ret
  exact ⟨by rw [HL.out]; simp; omega, rfl⟩
set_option maxHeartbeats 1000000 in
set_option maxRecDepth 100000 in
theorem first_long (w : World) (a : Option Addr) (c : Nat) (l : List (List UInt8)) (hl : l.length ≤ 64) (hu : Txts w w.heap.size a l) :
    Calls Tryz.prog 201 #[.slice a l.length c, .func (.func 202) #[] #[]] w fun e w' => e = .returned (.int .i64 (l.findIdx long : Nat)) ∧ w = w' := by
  have HU := Lib.hid hu
  have HST := Lib.hid (fun j h => idx_step long l j h)
  have HC := Lib.hid (fun x => show Calls Tryz.prog 202 #[.string (str x)] w (fun e w' => e = .returned (.bool (long x)) ∧ w = w') from longc_any x w)
  generalize hp : long = p at *
  clear hu hp
  generalize hR : l.findIdx p = R
  have HR0 := Lib.hid (show R = 0 + (l.drop 0).findIdx p by rw [← hR]; simp)
  clear hR
  go_enter Tryz.func201, Tryz.ntmps201
  go_wp2_with fail
  go_loop [5, 6, 9] (fun _ _ i => ∃ j : Nat, j ≤ l.length ∧ i = .int .i64 j ∧ Hid (R = j + (l.drop j).findIdx p)) (fun _ _ i => l.length - (intOf i).toNat)
  case atStart => exact ⟨0, by omega, rfl, HR0⟩
  case round =>
    obtain ⟨j, hj, rfl, HJ⟩ := hrel
    by_cases hlt : j < l.length
    · obtain ⟨b, off, rfl, hb, hcc⟩ := HU.out (fun e => by rw [e] at hlt; simp at hlt)
      have cj := hcc j hlt
      have hst := HST.out j hlt
      have HCX := Lib.hid (HC.out (l.getD j []))
      generalize l.getD j [] = x at *
      have hjI : (j : Int) < (l.length : Int) := by omega
      by_cases ho : p x = true
      · rw [ho, if_pos rfl] at hst
        rw [ho] at HCX
        have HRJ := Lib.hid (show R = j by rw [HJ.out, hst, Nat.add_zero])
        clear hcc hst ho
        go_wp2_with fail
        refine (HCX.out).mono ?_
        rintro e w1 ⟨rfl, rfl⟩
        go_wp2_with fail
        go_ret
        exact ⟨by rw [HRJ.out]; rfl, rfl⟩
      · have ho' : p x = false := by simpa using ho
        rw [ho', if_neg (by simp)] at hst
        rw [ho'] at HCX
        have HN := Lib.hid (show R = (j + 1) + (l.drop (j + 1)).findIdx p by rw [HJ.out, hst]; omega)
        clear hcc hst ho ho'
        go_wp2_with fail
        refine (HCX.out).mono ?_
        rintro e w1 ⟨rfl, rfl⟩
        go_wp2_with fail
        exact ⟨⟨j + 1, by omega, by go_num, HN⟩, by simp [intOf]; omega⟩
    · obtain rfl : j = l.length := by omega
      have HRE := Lib.hid (show R = l.length by rw [HJ.out, List.drop_length]; rfl)
      go_wp2_with fail
      go_ret
      exact ⟨by rw [HRE.out]; rfl, rfl⟩
set_option maxHeartbeats 400000 in
theorem fit_any (a : Option Addr) (c : Nat) (l : List (List UInt8)) (w : World) (hu : Txts w w.heap.size a l) :
    Calls Tryz.prog 192 #[.slice a l.length c] w fun e w' => e = .returned (.int .i64 (fitR l : Nat)) ∧ w = w' := by
  by_cases h : 64 < l.length
  · have HR := Lib.hid (show fitR l = 2 by unfold fitR; rw [if_pos (Or.inl h)])
    have g1 : decide ((64 : Int) < (l.length : Int)) = true := decide_eq_true (by omega)
    go_enter Tryz.func192, Tryz.ntmps192
    go_wp2_with fail
    go_ret
    exact ⟨by rw [HR.out]; rfl, rfl⟩
  · have g1 : decide ((64 : Int) < (l.length : Int)) = false := decide_eq_false (by omega)
    have HF := Lib.hid (first_long w a c l (by omega) hu)
    by_cases h2 : l.findIdx long < l.length
    · have HR := Lib.hid (show fitR l = 2 by unfold fitR; rw [if_pos (Or.inr h2)])
      generalize l.findIdx long = j at *
      have g2 : decide (j < l.length) = true := decide_eq_true h2
      clear h2
      go_enter Tryz.func192, Tryz.ntmps192
      go_wp2_with fail
      refine (HF.out).mono ?_
      rintro e w1 ⟨rfl, rfl⟩
      go_wp2_with fail
      go_ret
      exact ⟨by rw [HR.out]; rfl, rfl⟩
    · have HR := Lib.hid (show fitR l = 0 by unfold fitR; rw [if_neg (by rintro (x | x); exact h x; exact h2 x)])
      generalize l.findIdx long = j at *
      have g2 : decide (j < l.length) = false := decide_eq_false h2
      clear h2
      go_enter Tryz.func192, Tryz.ntmps192
      go_wp2_with fail
      refine (HF.out).mono ?_
      rintro e w1 ⟨rfl, rfl⟩
      go_wp2_with fail
      go_ret
      exact ⟨by rw [HR.out]; rfl, rfl⟩
end Go.Proofs.YtcachhnhncodoaaGreat
namespace Go.Proofs.YtcachhnhncodoaaGreat
open Go.RowKit
set_option linter.unusedVariables false
def rise : List (List UInt8) → Bool
  | [] => true
  | [_] => true
  | x :: y :: t => decide (x < y) && rise (y :: t)
theorem rise_up : ∀ b : List (List UInt8), rise b = true ↔ T.Up b := by
  intro b
  induction b with
  | nil => exact ⟨fun _ => List.Pairwise.nil, fun _ => rfl⟩
  | cons x t ih =>
    cases t with
    | nil => exact ⟨fun _ => by unfold T.Up; simp, fun _ => rfl⟩
    | cons y t =>
      unfold rise T.Up
      rw [Bool.and_eq_true, decide_eq_true_iff, ih]
      constructor
      · rintro ⟨h1, h2⟩
        refine List.pairwise_cons.2 ⟨fun z hz => ?_, h2⟩
        rcases List.mem_cons.1 hz with rfl | hz
        · exact h1
        · exact T.lt_tr h1 ((List.pairwise_cons.1 h2).1 z hz)
      · intro h
        obtain ⟨h1, h2⟩ := List.pairwise_cons.1 h
        exact ⟨h1 y (by simp), h2⟩
def Rise (b : List (List UInt8)) (k : Nat) : Prop := ∀ i, i + 1 < k → b.getD i [] < b.getD (i + 1) []
theorem Rise.all {b : List (List UInt8)} (h : Rise b b.length) : rise b = true := by
  rw [rise_up]
  refine List.pairwise_iff_getElem.2 ?_
  intro i j hi hj hij
  have step : ∀ k (hk : i + k + 1 < b.length), b[i] < b[i + k + 1] := by
    intro k
    induction k with
    | zero =>
      intro hk
      have := h i (by omega)
      simpa [List.getD, List.getElem?_eq_getElem hi, List.getElem?_eq_getElem (show i + 1 < b.length by omega)] using this
    | succ k ih =>
      intro hk
      have h1 := ih (by omega)
      have := h (i + k + 1) (by omega)
      have h2 : b[i + k + 1] < b[i + k + 1 + 1] := by
        simpa [List.getD, List.getElem?_eq_getElem (show i + k + 1 < b.length by omega), List.getElem?_eq_getElem (show i + k + 1 + 1 < b.length by omega)] using this
      exact T.lt_tr h1 h2
  have := step (j - i - 1) (by omega)
  have e : i + (j - i - 1) + 1 = j := by omega
  simpa [e] using this
theorem rise_bad {b : List (List UInt8)} {i : Nat} (hi : i + 1 < b.length) (h : ¬ b.getD i [] < b.getD (i + 1) []) : rise b = false := by
  rw [← Bool.not_eq_true]
  intro hr
  have := T.up_get ((rise_up b).1 hr) (i := i) (j := i + 1) (by omega) hi (by omega)
  apply h
  simpa [List.getD, List.getElem?_eq_getElem hi, List.getElem?_eq_getElem (show i < b.length by omega)] using this
theorem Rise.succ {b : List (List UInt8)} {k : Nat} (h : Rise b k) (hk : 1 ≤ k) (hl : b.getD (k - 1) [] < b.getD k []) : Rise b (k + 1) := by
  intro i hi
  by_cases e : i + 1 = k
  · subst e; simpa using hl
  · exact h i (by omega)
def bookR (b : List (List UInt8)) : Nat := if fitR b ≠ 0 then fitR b else if rise b then 0 else 4
set_option maxHeartbeats 1000000 in
set_option maxRecDepth 100000 in
theorem dcheck_any (a : Option Addr) (c : Nat) (l : List (List UInt8)) (w : World) (hu : Txts w w.heap.size a l) :
    Calls Tryz.prog 199 #[.slice a l.length c] w fun e w' => e = .returned (.int .i64 (bookR l : Nat)) ∧ Below w.heap.size w w' := by
  have HF := Lib.hid (fit_any a c l w hu)
  have HU := Lib.hid hu
  have h64 : fitR l = 0 → l.length ≤ 64 := fun h => by
    unfold fitR at h
    rcases Classical.em (64 < l.length ∨ l.findIdx long < l.length) with hh | hh
    · rw [if_pos hh] at h; exact absurd h (by decide)
    · rcases Nat.lt_or_ge 64 l.length with k | k
      · exact absurd (Or.inl k) hh
      · exact k
  by_cases hf : fitR l ≠ 0
  · have HR := Lib.hid (show bookR l = fitR l by unfold bookR; rw [if_pos hf])
    generalize fitR l = er at *
    have g1 : ((er : Int) != 0) = true := by rw [bne_iff_ne]; omega
    clear h64 hu
    go_enter Tryz.func199, Tryz.ntmps199
    go_wp2_with fail
    refine (HF.out).mono ?_
    rintro e w1 ⟨rfl, rfl⟩
    go_wp2_with fail
    go_ret
    exact ⟨by rw [HR.out]; rfl, Below.refl _ _⟩
  have hf0 : fitR l = 0 := by omega
  have hl := h64 hf0
  have HRB := Lib.hid (show bookR l = if rise l then 0 else 4 by unfold bookR; rw [if_neg hf])
  rw [hf0] at HF
  clear h64 hf hf0 hu
  go_enter Tryz.func199, Tryz.ntmps199
  go_wp2_with fail
  refine (HF.out).mono ?_
  rintro e w1 ⟨rfl, rfl⟩
  go_wp2_with fail
  go_loopw [4] (fun i wr => ∃ k d : Nat, 1 ≤ k ∧ (k ≤ l.length ∨ k = 1) ∧ i = .int .i64 k ∧ Hid (Rise l k) ∧ wr = w.drewN d) (fun i _ => l.length + 1 - (intOf i).toNat)
  case atStart => exact ⟨1, 0, by omega, Or.inr rfl, rfl, Lib.hid (fun i hi => absurd hi (by omega)), rfl⟩
  case round =>
    obtain ⟨k, d, hk1, hk, rfl, HRI, rfl⟩ := hrel
    by_cases hlt : k < l.length
    · obtain ⟨b, off, rfl, hb, hcc⟩ := HU.out (fun e => by rw [e] at hlt; simp at hlt)
      have ck := hcc k hlt
      have cp := hcc (k - 1) (by omega)
      have HSU := Lib.hid (fun h => HRI.out.succ hk1 h)
      have HBD := Lib.hid (fun h => rise_bad (b := l) (i := k - 1) (by omega) h)
      rw [show k - 1 + 1 = k by omega] at HBD
      have hlo := less_or (l.getD k []) (l.getD (k - 1) [])
      generalize l.getD k [] = x at *
      generalize l.getD (k - 1) [] = y at *
      generalize str x = X at *
      generalize str y = Y at *
      have hi1 : IntKind.i64.wrap ((k : Int) - 1) = (k : Int) - 1 := by rw [IntKind.wrap_i64]; omega
      have hi2 : (0 : Int) ≤ (k : Int) - 1 := by omega
      have hi3 : ((k : Int) - 1).toNat = k - 1 := by omega
      have hi4 : (k : Int) - 1 < (l.length : Int) := by omega
      have hi5 : (k : Int) < (l.length : Int) := by omega
      have hi6 : (1 : Int) ≤ (k : Int) := by omega
      clear hcc
      by_cases hxy : y < x
      · rw [show (!decide (y < x)) = false by simp [hxy]] at hlo
        have HN := Lib.hid (HSU.out hxy)
        clear hxy
        go_wp2_with fail
        go_quiet (fail)
        go_wp2_with fail
        exact ⟨⟨k + 1, d + nq, by omega, Or.inl (by omega), by go_num, HN, rfl⟩, by simp [intOf]; omega⟩
      · rw [show (!decide (y < x)) = true by simp [hxy]] at hlo
        have HB4 := Lib.hid (show bookR l = 4 by rw [HRB.out, HBD.out hxy, if_neg (by simp)])
        clear hxy
        go_wp2_with fail
        go_quiet (fail)
        go_wp2_with fail
        go_ret
        exact ⟨by rw [HB4.out]; rfl, below_drewN (below_drewN (Below.refl _ _) _) _⟩
    · have HB0 := Lib.hid (show bookR l = 0 by
        rw [HRB.out, if_pos]
        refine Rise.all ?_
        rcases hk with h | h
        · have e : k = l.length := by omega
          rw [← e]; exact HRI.out
        · intro i hi; omega)
      have hge : l.length ≤ k := by omega
      clear hk
      go_wp2_with fail
      go_ret
      exact ⟨by rw [HB0.out]; rfl, below_drewN (Below.refl _ _) _⟩
theorem bookR_len {b : List (List UInt8)} (h : bookR b = 0) : b.length ≤ 64 ∧ T.Up b := by
  unfold bookR at h
  by_cases hf : fitR b ≠ 0
  · rw [if_pos hf] at h; exact absurd h hf
  rw [if_neg hf] at h
  constructor
  · unfold fitR at hf
    rcases Classical.em (64 < b.length ∨ b.findIdx long < b.length) with hh | hh
    · rw [if_pos hh] at hf; exact absurd (by decide) hf
    · rcases Nat.lt_or_ge 64 b.length with k | k
      · exact absurd (Or.inl k) hh
      · exact k
  · rw [← rise_up]
    cases hr : rise b with
    | true => rfl
    | false => rw [hr] at h; simp at h
end Go.Proofs.YtcachhnhncodoaaGreat
namespace Go.Proofs.YtcachhnhncodoaaGreat
open Go.RowKit
set_option linter.unusedVariables false
theorem tcons_ne {x y : UInt8} {s t : List UInt8} (h : x ≠ y) : decide (x :: s < y :: t) = decide (x < y) := by
  rw [decide_eq_decide, List.cons_lt_cons_iff]
  exact ⟨fun hh => hh.resolve_right fun e => h e.1, Or.inl⟩
theorem tcons_eq {x y : UInt8} {s t : List UInt8} (h : x = y) : decide (x :: s < y :: t) = decide (s < t) := by
  subst h
  rw [decide_eq_decide, List.cons_lt_cons_iff]
  exact ⟨fun hh => by
    rcases hh with hh | ⟨_, hh⟩
    · exact absurd hh (UInt8.lt_irrefl x)
    · exact hh, fun hh => Or.inr ⟨rfl, hh⟩⟩
theorem tnil_left (t : List UInt8) : decide ([] < t) = decide (0 < t.length) := by
  rw [decide_eq_decide]
  cases t with
  | nil => simp
  | cons x t => simp
theorem tnil_right (s : List UInt8) : decide (s < []) = false := by
  rw [decide_eq_false_iff_not]; exact List.not_lt_nil s
set_option maxHeartbeats 1000000 in
set_option maxRecDepth 100000 in
theorem tless_core (x y : List UInt8) (X Y : ByteArray) (w : World) (hx : x.length ≤ 9223372036854775807) (hy : y.length ≤ 9223372036854775807) (hsx : X.size = x.length) (hsy : Y.size = y.length)
    (hxa : ∀ i (h : i < X.size) (h2 : i < x.length), X[i] = x[i]) (hya : ∀ i (h : i < Y.size) (h2 : i < y.length), Y[i] = y[i]) :
    Calls Tryz.prog 158 #[.string X, .string Y] w fun e w' => e = .returned (.bool (decide (x < y))) ∧ ∃ d, w' = w.drewN d := by
  have HXA := Lib.hid hxa
  have HYA := Lib.hid hya
  clear hxa hya
  obtain ⟨R, hR⟩ : ∃ R, R = decide (x < y) := ⟨_, rfl⟩
  have HD0 := Lib.hid (show R = decide (x.drop 0 < y.drop 0) by rw [hR]; rfl)
  rw [← hR]
  have HNE := Lib.hid (fun i (h : R = decide (x.drop i < y.drop i)) (h1 : i < x.length) (h2 : i < y.length) (hn : x[i] ≠ y[i]) => show R = decide (x[i].toNat < y[i].toNat) by
    rw [h, List.drop_eq_getElem_cons h1, List.drop_eq_getElem_cons h2, tcons_ne hn, decide_eq_decide]; exact UInt8.lt_iff_toNat_lt)
  have HEQ := Lib.hid (fun i (h : R = decide (x.drop i < y.drop i)) (h1 : i < x.length) (h2 : i < y.length) (hn : x[i] = y[i]) => show R = decide (x.drop (i + 1) < y.drop (i + 1)) by
    rw [h, List.drop_eq_getElem_cons h1, List.drop_eq_getElem_cons h2, tcons_eq hn])
  have HEX := Lib.hid (fun i (h : R = decide (x.drop i < y.drop i)) (h1 : i ≤ x.length) (h2 : i ≤ y.length) (hh : i = x.length ∨ i = y.length) => show R = decide (x.length < y.length) by
    rw [h]
    rcases hh with hh | hh
    · rw [hh, List.drop_length, tnil_left, List.length_drop, decide_eq_decide]; omega
    · rw [hh, List.drop_length, tnil_right]; exact (decide_eq_false (by omega)).symm)
  clear hR
  obtain ⟨n, hn⟩ : ∃ n, n = X.size := ⟨_, rfl⟩
  obtain ⟨m, hm⟩ : ∃ m, m = Y.size := ⟨_, rfl⟩
  have HN := Lib.hid hn
  have HM := Lib.hid hm
  have HSX := Lib.hid hsx
  have HSY := Lib.hid hsy
  have hX : X.size ≤ 9223372036854775807 := by omega
  have hY : Y.size ≤ 9223372036854775807 := by omega
  clear hn hm hsx hsy hx hy
  go_enter Tryz.func158, Tryz.ntmps158
  go_wp2_with fail
  go_loopw [5] (fun i wr => ∃ k d : Nat, k ≤ X.size ∧ k ≤ Y.size ∧ i = .int .i64 k ∧ wr = w.drewN d ∧ Hid (R = decide (x.drop k < y.drop k))) (fun i _ => X.size - (intOf i).toNat)
  case atStart => exact ⟨0, 0, by omega, by omega, rfl, rfl, HD0⟩
  case round =>
    obtain ⟨k, d, hk1, hk2, rfl, rfl, HJ⟩ := hrel
    by_cases hlt1 : k < X.size
    · by_cases hlt2 : k < Y.size
      · have h1 : k < x.length := by have := HSX.out; omega
        have h2 : k < y.length := by have := HSY.out; omega
        have ex := HXA.out k hlt1 h1
        have ey := HYA.out k hlt2 h2
        have hne := HNE.out k HJ.out h1 h2
        have heq := HEQ.out k HJ.out h1 h2
        generalize x[k] = p at *
        generalize y[k] = q at *
        have hk1I : (k : Int) < (X.size : Int) := by omega
        have hk2I : (k : Int) < (Y.size : Int) := by omega
        by_cases hpq : p = q
        · have HN1 := Lib.hid (heq hpq)
          have g1 : ((p.toNat : Int) != (q.toNat : Int)) = false := by subst hpq; simp
          have g2 : ((p.toNat) != (q.toNat)) = false := by subst hpq; simp
          clear hne heq hpq
          go_wp2_with fail
          go_quiet (fail)
          go_wp2_with fail
          exact ⟨⟨k + 1, d + nq, by omega, by omega, by go_num, by first | rfl | exact World.drewN_drewN _ _ _, HN1⟩, by simp [intOf]; omega⟩
        · have HN1 := Lib.hid (hne hpq)
          have hne2 : ¬ p.toNat = q.toNat := fun e => hpq (UInt8.toNat_inj.1 e)
          have g1 : ((p.toNat : Int) != (q.toNat : Int)) = true := by rw [bne_iff_ne]; omega
          clear hne heq hpq
          go_wp2_with fail
          go_quiet (fail)
          go_wp2_with fail
          go_quiet (fail)
          go_wp2_with fail
          go_ret
          exact ⟨by rw [HN1.out]; simp, _, by first | rfl | simp only [World.drewN_drewN] ; rfl⟩
      · have HE := Lib.hid (HEX.out k HJ.out (by have := HSX.out; omega) (by have := HSY.out; omega) (Or.inr (by have := HSY.out; omega)))
        have HE2 := Lib.hid (show R = decide (X.size < Y.size) by rw [HE.out, decide_eq_decide]; have := HSX.out; have := HSY.out; omega)
        have g1 : decide ((k : Int) < (X.size : Int)) = true := decide_eq_true (by omega)
        have g2 : decide ((k : Int) < (Y.size : Int)) = false := decide_eq_false (by omega)
        go_wp2_with fail
        go_ret
        exact ⟨by rw [HE2.out]; rfl, d, rfl⟩
    · have HE := Lib.hid (HEX.out k HJ.out (by have := HSX.out; omega) (by have := HSY.out; omega) (Or.inl (by have := HSX.out; omega)))
      have HE2 := Lib.hid (show R = decide (X.size < Y.size) by rw [HE.out, decide_eq_decide]; have := HSX.out; have := HSY.out; omega)
      have g1 : decide ((k : Int) < (X.size : Int)) = false := decide_eq_false (by omega)
      go_wp2_with fail
      go_ret
      exact ⟨by rw [HE2.out]; rfl, d, rfl⟩
theorem tless_any (x y : List UInt8) (w : World) (hx : x.length ≤ maxLen) (hy : y.length ≤ maxLen) :
    Calls Tryz.prog 158 #[.string (str x), .string (str y)] w fun e w' => e = .returned (.bool (decide (x < y))) ∧ ∃ d, w' = w.drewN d :=
  tless_core x y (str x) (str y) w (by unfold maxLen at hx; omega) (by unfold maxLen at hy; omega) (str_size x) (str_size y) (fun i h h2 => str_at x i h h2) (fun i h h2 => str_at y i h h2)
end Go.Proofs.YtcachhnhncodoaaGreat
