/- ShJ1, ShJ2, ShJ3, ShJ4. -/
import Derived.Deep.RegionLaw
import Derived.Test.YtjfkoledbegpfaaShJn
import Derived.Test.YtjfkoledbegpfaaShK3
/- The walk of hypostyleref.cutAt. -/
namespace Go.Proofs.Ytjfkoledbegpfaa
open Go.RowKit
open Sh (Lv cut cStep cut_snoc cStep_ne)
set_option linter.unusedVariables false

/-- columns in a row of one's own, each a row of one's own, no two in the same block -/
def COutA (w : World) (B : Nat) (v : Value) (n : Nat) (D : List (List Lv)) : Prop :=
  D.length = n ∧ ∃ vs, w.ownsRow B 40 1 v n vs ∧ (∀ i, i < n → w.ownsRow B 43 3 (vs.getD i undef) (D.getD i []).length (lvals (D.getD i []))) ∧
    ∀ i j b, i < n → j < n → i ≠ j → (vs.getD i undef).ownBlock = some b → (vs.getD j undef).ownBlock ≠ some b
theorem COutA.co {w : World} {B n : Nat} {v : Value} {D : List (List Lv)} (h : COutA w B v n D) : COut w B v n D := by
  obtain ⟨h1, vs, h2, h3, _⟩ := h
  exact ⟨h1, vs, h2, h3⟩
theorem COutA.next {w w' : World} {B n : Nat} {v : Value} {D : List (List Lv)} (h : COutA w B v n D) (hb : Below w.heap.size w w') : COutA w' B v n D := by
  obtain ⟨h1, vs, h2, h3, h4⟩ := h
  exact ⟨h1, vs, row_below h2 hb, fun i hi => row_below (h3 i hi) hb, h4⟩
theorem COutA.nil (w : World) (B : Nat) : COutA w B (.slice none 0 0) 0 [] := ⟨rfl, [], World.ownsRow_nil _ _ _ _, fun i hi => absurd hi (Nat.not_lt_zero _), fun i j b hi => absurd hi (Nat.not_lt_zero _)⟩
theorem getD_snoc_lt {α : Type} {l : List α} {x z : α} {i : Nat} (h : i < l.length) : (l ++ [x]).getD i z = l.getD i z := by unfold List.getD; rw [List.getElem?_append_left h]
theorem getD_snoc_eq {α : Type} {l : List α} {x z : α} {i : Nat} (h : i = l.length) : (l ++ [x]).getD i z = x := by subst h; unfold List.getD; rw [List.getElem?_append_right (Nat.le_refl _), Nat.sub_self]; rfl
theorem cell_heap {w w' : World} {b o : Nat} (h : w'.heap[b]? = w.heap[b]?) : w'.cell? ⟨b, o, none⟩ = w.cell? ⟨b, o, none⟩ := by simp only [World.cell?, h]
theorem frozen_heap {w w' : World} {b o : Nat} (h : w'.heap[b]? = w.heap[b]?) : w'.frozen? ⟨b, o, none⟩ = w.frozen? ⟨b, o, none⟩ := by simp only [World.frozen?, h]
theorem own_none (w : World) (B : Nat) (e : TypeId) (sz : Nat) : w.ownsRow B e sz (.slice none 0 0) 0 [] := World.ownsRow_nil _ _ _ _
/-- one more, which is empty -/
theorem COutA.more {w w' : World} {B n : Nat} {v v' : Value} {D : List (List Lv)} {vs : List Value} (hn : D.length = n) (h2 : w.ownsRow B 40 1 v n vs) (h3 : ∀ i, i < n → w.ownsRow B 43 3 (vs.getD i undef) (D.getD i []).length (lvals (D.getD i [])))
    (h4 : ∀ i j b, i < n → j < n → i ≠ j → (vs.getD i undef).ownBlock = some b → (vs.getD j undef).ownBlock ≠ some b)
    (hr : w'.ownsRow B 40 1 v' (n + 1) (vs ++ [.slice none 0 0])) (hg : w.grownBy w' v.ownBlock) : COutA w' B v' (n + 1) (D ++ [[]]) := by
  have hvl : vs.length = n := by rw [h2.1, Nat.mul_one]
  obtain ⟨q1, vs2, q2, q3⟩ := COut.snoc (l := []) hn h2 h3 (own_none _ _ _ _) hr hg
  have keep : ∀ {u : Value} {m : Nat} {xs : List Value}, w.ownsRow B 43 3 u m xs → w'.ownsRow B 43 3 u m xs := fun {u m xs} h => own_block h (fun i e => hg.block i (h.lt i e).2 (fun e2 => kinds h h2 (by decide) e e2.symm))
  refine ⟨q1, _, hr, fun i hi => ?_, fun i j b hi hj hij hb => ?_⟩
  · by_cases hlt : i < n
    · rw [getD_snoc_lt (by omega), getD_snoc_lt (by omega)]; exact keep (h3 i hlt)
    · rw [getD_snoc_eq (show i = vs.length by omega), getD_snoc_eq (show i = D.length by omega)]; exact own_none _ _ _ _
  · by_cases h : i < n
    · rw [getD_snoc_lt (by omega)] at hb
      by_cases h' : j < n
      · rw [getD_snoc_lt (by omega)]; exact h4 i j b h h' hij hb
      · rw [getD_snoc_eq (by omega)]; intro e; cases e
    · rw [getD_snoc_eq (by omega)] at hb; cases hb
/-- what stands in its last place -/
theorem COutA.last {w : World} {B n cp : Nat} {A : Option Addr} {D : List (List Lv)} {d : List Lv} (h : COutA w B (.slice A n cp) n (D ++ [d])) : ∃ C y, A = some ⟨C, 0, none⟩ ∧ B ≤ C ∧ C < w.heap.size ∧ n = D.length + 1 ∧ w.cell? ⟨C, D.length, none⟩ = some y ∧ (∀ j, w.frozen? ⟨C, j, none⟩ = false) ∧ n ≤ cp ∧ cp ≤ maxLen ∧
    w.ownsRow B 43 3 y d.length (lvals d) ∧ y.ownBlock ≠ some C ∧
    (∀ (w2 w' : World) (b c : Nat) (x : Lv), Below w.heap.size w w2 → w'.ownsRow B 43 3 (.slice (some ⟨b, 0, none⟩) (d.length + 1) c) (d.length + 1) (lvals (d ++ [x])) → w2.grownBy w' y.ownBlock → (y.ownBlock = some b ∨ b = w2.heap.size) →
      COutA (w'.setCell ⟨C, D.length, none⟩ (.slice (some ⟨b, 0, none⟩) (d.length + 1) c)) B (.slice A n cp) n (D ++ [d ++ [x]])) := by
  obtain ⟨h1, vs, h2, h3, h4⟩ := h
  have hn : n = D.length + 1 := by rw [← h1]; simp
  have hvl : vs.length = n := by rw [h2.1, Nat.mul_one]
  rcases h2.2 with ⟨e, h0⟩ | ⟨g, cap, cur, e, e2, e3, e4, e5, e6⟩
  · omega
  injection e with e1 e1b e1c
  subst e1
  subst e1c
  have hrow := h3 D.length (by omega)
  rw [show (D ++ [d]).getD D.length [] = d from getD_snoc_eq rfl] at hrow
  have hyC : (vs.getD D.length undef).ownBlock ≠ some g := fun e => kinds hrow h2 (by decide) e rfl
  refine ⟨g, vs.getD D.length undef, rfl, e2, (h2.lt g rfl).2, hn, ?_, fun j => h2.frozenAt _, e4, e5, hrow, hyC, ?_⟩
  · rw [h2.cellAt D.length (by omega)]; simp [List.getD, List.getElem?_eq_getElem (show D.length < vs.length by omega)]
  intro w2 w' b c x hb hr hg hor
  have hk : ∀ i, i < w.heap.size → (vs.getD D.length undef).ownBlock ≠ some i → w'.heap[i]? = w.heap[i]? := fun i hi hne => (hg.block i (Nat.lt_of_lt_of_le hi hb.size) (fun e => hne e.symm)).trans (hb.block i hi)
  have h2' : w'.ownsRow B 40 1 (.slice (some ⟨g, 0, none⟩) n cp) n vs := own_block h2 (fun i e => hk i (h2.lt i e).2 (fun e2 => kinds hrow h2 (by decide) e2 e))
  have h2s := (World.ownsRow.stored h2' D.length (.slice (some ⟨b, 0, none⟩) (d.length + 1) c)).1
  have hbC : b ≠ g := fun e => kinds hr h2' (by decide) (g := b) rfl (by rw [e]; rfl)
  refine ⟨by simp [hn], vs.set D.length (.slice (some ⟨b, 0, none⟩) (d.length + 1) c), by simpa using h2s, fun i hi => ?_, fun i j bb hi hj hij hbb => ?_⟩
  · by_cases hlt : i = D.length
    · subst hlt
      rw [getD_snoc_eq rfl, show (vs.set D.length (.slice (some ⟨b, 0, none⟩) (d.length + 1) c)).getD D.length undef = .slice (some ⟨b, 0, none⟩) (d.length + 1) c by simp [List.getD, show D.length < vs.length by omega]]
      have := own_block (w' := w'.setCell ⟨g, D.length, none⟩ (.slice (some ⟨b, 0, none⟩) (d.length + 1) c)) hr (fun i e => Below.heap_setCell w' _ _ i (fun e2 => hbC ((Option.some.inj e).trans e2)))
      simpa using this
    · have hlt2 : i < D.length := by omega
      rw [getD_snoc_lt hlt2, show (vs.set D.length (.slice (some ⟨b, 0, none⟩) (d.length + 1) c)).getD i undef = vs.getD i undef by simp [List.getD, List.getElem?_set_ne (show D.length ≠ i by omega)]]
      have hi3 := h3 i (by omega)
      rw [getD_snoc_lt hlt2] at hi3
      exact own_block hi3 (fun q e => (Below.heap_setCell w' _ _ q (fun e2 => kinds hi3 h2 (by decide) e (by rw [e2]; rfl))).trans (hk q (hi3.lt q e).2 (h4 i D.length q (by omega) (by omega) hlt e)))
  · have hg1 : ∀ i, i ≠ D.length → (vs.set D.length (.slice (some ⟨b, 0, none⟩) (d.length + 1) c)).getD i undef = vs.getD i undef := fun i hi => by simp [List.getD, List.getElem?_set_ne (Ne.symm hi)]
    have hg2 : (vs.set D.length (.slice (some ⟨b, 0, none⟩) (d.length + 1) c)).getD D.length undef = .slice (some ⟨b, 0, none⟩) (d.length + 1) c := by simp [List.getD, show D.length < vs.length by omega]
    have hnew : ∀ i q, i < n → i ≠ D.length → (vs.getD i undef).ownBlock = some q → q ≠ b := fun i q hi hne hq e => by
      subst e
      rcases hor with ho | ho
      · exact h4 D.length i q (by omega) hi (Ne.symm hne) ho hq
      · have := ((h3 i hi).lt q hq).2
        have := hb.size
        omega
    by_cases hiD : i = D.length
    · subst hiD
      rw [hg2] at hbb
      rw [hg1 j (Ne.symm hij)]
      intro e
      exact hnew j bb hj (Ne.symm hij) e (Option.some.inj hbb).symm
    · rw [hg1 i hiD] at hbb
      by_cases hjD : j = D.length
      · subst hjD
        rw [hg2]
        intro e
        exact hnew i bb hi hiD hbb (Option.some.inj e).symm
      · rw [hg1 j hjD]
        exact h4 i j bb hi hj hij hbb
theorem wpList_append_nilA {w : World} {ops : Array Oper} {rest : List Oper} {o : Oper} {a : Act} {Q : Exit → Act → World → Prop} (hgd : o.guard = none) (s x : Operand)
    (ho : o.op = .call { callee := .builtin .append, args := #[s, x], argTypes := #[27, 27] }) (base : Nat)
    (v : Value) (n : Nat) (D : List (List Lv)) (hs : a.eval s = v) (hown : COutA w base v n D)
    (g : Nat) (hx : a.eval x = .slice (some ⟨g, 0, none⟩) 1 1) (hblk : w.heap[g]? = some (.cells #[.slice none 0 0] 40 (0, 0)))
    (hbytes : (n + 1) * 24 ≤ 140737488355328) (hbase : base ≤ w.heap.size)
    (h : ∀ A' cp w', COutA w' base (.slice A' (n + 1) cp) (n + 1) (D ++ [[]]) → Below base w w' → wpList Try.prog ops Q rest (a.put o.dst (.slice A' (n + 1) cp)) w') : wpList Try.prog ops Q (o :: rest) a w := by
  obtain ⟨hn, vs, h2, h3, h4⟩ := hown
  obtain ⟨i, hi, hz0, hz1, hz2⟩ := info_parts info_lvs
  refine wpList_append_lies w hgd s x 27 ho base 40 i (.slice none 0 0) 1 24 Try.underlying27 hi hz0 hz1 hz2 rfl (by decide) v n vs hs h2 ⟨g, 0, none⟩ 1 1 [.slice none 0 0] hx rfl (World.news_of_block hblk) ?_ (by decide) (by unfold maxLen; omega) hbytes hbase _ rfl ?_
  · intro u hu
    rw [List.mem_singleton.1 hu]; rfl
  · intro g' cap w' q1 q2 q3 q4
    exact h _ cap w' (COutA.more hn h2 h3 h4 q1 q2) ((Below.refl base w).grown q2 hbase (fun k hk => (h2.lt k hk).1))
theorem step_lv_lies {w : World} {ops : Array Oper} {o : Oper} {a : Act} {K : Act → World → Prop} {Q : Exit → Act → World → Prop} {E : Prop} (hw : Region.wanted o (yielded ops a.tmps) = true) (s x : Operand)
    (ho : o.op = .call { callee := .builtin .append, args := #[s, x], argTypes := #[40, 40] }) (base : Nat)
    (v : Value) (n : Nat) (xs : List Lv) (hs : a.eval s = v) (hown : w.ownsRow base 43 3 v n (lvals xs))
    (g : Nat) (l : Lv) (hx : a.eval x = .slice (some ⟨g, 0, none⟩) 1 1) (hblk : w.heap[g]? = some (.cells #[.int .i64 l.1, .int .i64 l.2.1, .int .u64 (l.2.2 : Nat)] 43 (0, 0)))
    (hbytes : (n + 1) * 24 ≤ 140737488355328) (hbase : base ≤ w.heap.size)
    (h : ∀ b c w', w'.ownsRow base 43 3 (.slice (some ⟨b, 0, none⟩) (n + 1) c) (n + 1) (lvals (xs ++ [l])) → w.grownBy w' v.ownBlock → (v.ownBlock = some b ∨ b = w.heap.size) → b < w'.heap.size → K (a.put o.dst (.slice (some ⟨b, 0, none⟩) (n + 1) c)) w') :
    if Region.wanted o (yielded ops a.tmps) = true then Oper.wp Try.prog o a w K Q else E := by
  rw [if_pos hw]
  obtain ⟨i, hi, hz0, hz1, hz2⟩ := info_parts info_level
  refine wp_append_lies w s x 40 ho base 43 i (.agg #[.int .i64 0, .int .i64 0, .int .u64 0]) 3 24 Try.underlying40 hi hz0 hz1 hz2 rfl (by decide) v n (lvals xs) hs hown ⟨g, 0, none⟩ 1 1 (lvv l) hx rfl (World.news_of_block hblk) (lvv_one l) (by decide) (by unfold maxLen; omega) hbytes hbase _ rfl ?_
  intro b c w' q1 q2 q3 q4
  exact h b c w' (by rw [lvals_snoc]; exact q1) q2 q3 q4
end Go.Proofs.Ytjfkoledbegpfaa
/- The walk of hypostyleref.cutAt. -/
namespace Go.Proofs.Ytjfkoledbegpfaa
open Go.RowKit
open Sh (Lv cut cStep cut_snoc cStep_ne)
set_option linter.unusedVariables false

/-- a level begins a part -/
def begins (P : Int) (k : Nat) (x : Lv) : Bool := decide (k = 0) || decide (x.1 ≤ P)
theorem cut_step (P : Int) (l : List Lv) (k : Nat) (hk : k < l.length) : ∃ D d, (if begins P k (l.getD k (0, 0, 0)) = true then cut P (l.take k) ++ [[]] else cut P (l.take k)) = D ++ [d] ∧ cut P (l.take (k + 1)) = D ++ [d ++ [l.getD k (0, 0, 0)]] := by
  rw [gtake_succ (0, 0, 0) l k hk, cut_snoc]
  generalize l.getD k (0, 0, 0) = x
  unfold begins
  by_cases h0 : k = 0
  · subst h0
    simp only [decide_true, Bool.true_or, if_true, List.take_zero]
    refine ⟨[], [], rfl, ?_⟩
    show cStep P (cut P []) _ = _
    unfold cStep cut
    simp
  · by_cases hx : x.1 ≤ P
    · rw [if_pos (by simp [hx])]
      refine ⟨cut P (l.take k), [], rfl, ?_⟩
      unfold cStep
      rw [if_pos (Or.inr hx)]
      simp
    · rw [if_neg (by simp [h0, hx])]
      have hne : cut P (l.take k) ≠ [] := by
        obtain ⟨j, rfl⟩ : ∃ j, k = j + 1 := ⟨k - 1, by omega⟩
        rw [gtake_succ (0, 0, 0) l j (by omega), cut_snoc]
        exact cStep_ne _ _ _
      obtain ⟨D, d, hD⟩ : ∃ D d, cut P (l.take k) = D ++ [d] := ⟨_, _, (List.dropLast_concat_getLast hne).symm⟩
      refine ⟨D, d, hD, ?_⟩
      unfold cStep
      rw [if_neg (by simp [hne, hx]), hD]
      simp [List.getLastD_eq_getLast?]
theorem cut_ne (P : Int) (l : List Lv) (k : Nat) (hk : k ≤ l.length) : (cut P (l.take k)).length ≤ k := by
  induction k with
  | zero => simp [cut]
  | succ k ih =>
    have := ih (by omega)
    rw [gtake_succ (0, 0, 0) l k (by omega), cut_snoc]
    unfold cStep
    split
    · rw [List.length_append]; simp; omega
    · rename_i h
      rw [List.length_append, List.length_dropLast]
      simp
      omega
theorem cut_sum (P : Int) (l : List Lv) (k : Nat) (hk : k ≤ l.length) : ((cut P (l.take k)).map List.length).sum = k := by
  induction k with
  | zero => simp [cut]
  | succ k ih =>
    have := ih (by omega)
    rw [gtake_succ (0, 0, 0) l k (by omega), cut_snoc]
    unfold cStep
    split
    · rw [List.map_append, List.sum_append]; simp; omega
    · rename_i h
      have hne : cut P (l.take k) ≠ [] := fun e => h (Or.inl e)
      obtain ⟨D, d, hD⟩ : ∃ D d, cut P (l.take k) = D ++ [d] := ⟨_, _, (List.dropLast_concat_getLast hne).symm⟩
      rw [hD] at this ⊢
      simp [List.getLastD_eq_getLast?] at this ⊢
      omega
theorem cut_last (P : Int) (l : List Lv) (k : Nat) (hk : k < l.length) (D : List (List Lv)) (d : List Lv) (x : Lv) (h : cut P (l.take (k + 1)) = D ++ [d ++ [x]]) : d.length ≤ k := by
  have := cut_sum P l (k + 1) (by omega)
  rw [h] at this
  simp at this
  omega
def CutPost (w : World) (D : List (List Lv)) (e : Ending) (w' : World) : Prop := ∃ A cp n, e = .returned (.slice A n cp) ∧ COutA w' w.heap.size (.slice A n cp) n D ∧ Below w.heap.size w w'
theorem COutA.form {w : World} {B n : Nat} {v : Value} {D : List (List Lv)} (h : COutA w B v n D) : ∃ A cp, v = .slice A n cp := by
  obtain ⟨A, cp, e, _⟩ := h.co.form
  exact ⟨A, cp, e⟩
set_option maxHeartbeats 4000000 in
set_option maxRecDepth 100000 in
theorem cutAt_any (a : Option Addr) (c : Nat) (l : List Lv) (P : Int) (w : World) (hl : l.length ≤ 1048576) (hu : Lvs w w.heap.size a l) :
    Calls Try.prog 45 #[.slice a l.length c, .int .i64 P] w (CutPost w (cut P l)) := by
  have HU := Lib.hid hu
  have HST := Lib.hid (fun k hk => cut_step P l k hk)
  have HCL := Lib.hid (fun k hk => cut_ne P l k hk)
  have HDLEN := Lib.hid (fun k (hk : k < l.length) D d x (h : cut P (l.take (k + 1)) = D ++ [d ++ [x]]) => show d.length ≤ k from cut_last P l k hk D d x h)
  have HE := Lib.hid (show cut P (l.take l.length) = cut P l by rw [List.take_length])
  clear hu
  go_enter Try.func45, Try.ntmps45
  go_wp2_with fail
  go_loopw [5, 6] (fun v i wr => ∃ (k n : Nat) (A : Option Addr) (cp : Nat), k ≤ l.length ∧ i = .int .i64 k ∧ v = .slice A n cp ∧ Below w.heap.size w wr ∧ Hid (COutA wr w.heap.size (.slice A n cp) n (cut P (l.take k)))) (fun _ i _ => l.length - (intOf i).toNat)
  case atStart => exact ⟨0, 0, none, 0, Nat.zero_le _, rfl, rfl, Below.refl _ _, Lib.hid (COutA.nil _ _)⟩
  case round =>
    obtain ⟨k, n, A, cp, hk, rfl, rfl, hbw, HCO⟩ := hrel
    rename World => wr
    by_cases hlt : k < l.length
    · obtain ⟨bb, off, rfl, hbb, hcc⟩ := HU.out (fun e => by rw [e] at hlt; simp at hlt)
      obtain ⟨k0, k1, k2⟩ := hcc k hlt
      have c0 : ∀ W, Below w.heap.size w W → W.cell? ⟨bb, off + k * 3, none⟩ = some (.int .i64 (l.getD k (0, 0, 0)).1) := fun W hb => (hb.cell (p := ⟨bb, off + k * 3, none⟩) hbb).trans k0
      have c1 : ∀ W, Below w.heap.size w W → W.cell? ⟨bb, off + k * 3 + 1, none⟩ = some (.int .i64 (l.getD k (0, 0, 0)).2.1) := fun W hb => (hb.cell (p := ⟨bb, off + k * 3 + 1, none⟩) hbb).trans k1
      have c2 : ∀ W, Below w.heap.size w W → W.cell? ⟨bb, off + k * 3 + 2, none⟩ = some (.int .u64 ((l.getD k (0, 0, 0)).2.2 : Nat)) := fun W hb => (hb.cell (p := ⟨bb, off + k * 3 + 2, none⟩) hbb).trans k2
      obtain ⟨D, d, hD1, hD2⟩ := HST.out k hlt
      have hcl := HCL.out k hk
      have hn : (cut P (l.take k)).length = n := HCO.out.1
      have hkI : (k : Int) < (l.length : Int) := by omega
      have hk0 : ((k : Int) == 0) = decide (k = 0) := by
        by_cases h : k = 0
        · subst h; rfl
        · rw [decide_eq_false h, beq_eq_false_iff_ne]; omega
      have HD2 := Lib.hid hD2
      have hD2' := hD2
      generalize hxx : l.getD k (0, 0, 0) = x at *
      have hxcl := hn
      clear hxx k0 k1 k2 hcc hD2
      have HDL := Lib.hid (show d.length ≤ k from HDLEN.out k hlt D d _ hD2')
      cases hbg : begins P k x with
      | true =>
        rw [hbg, if_pos rfl] at hD1
        have hby1 : (n + 1) * 24 ≤ 140737488355328 := by omega
        have HOA := Lib.hid (fun o => HCO.out.next ((Below.refl wr.heap.size wr).alloc (Nat.le_refl _) o))
        have HBA := Lib.hid (fun o => hbw.alloc hbw.size o)
        have d0 := c0 wr hbw
        have hcond : (decide (k = 0) = true) ∨ (decide (k = 0) = false ∧ decide (x.1 ≤ P) = true) := by
          unfold begins at hbg
          cases h : decide (k = 0) with
          | true => exact Or.inl rfl
          | false => rw [h] at hbg; exact Or.inr ⟨rfl, by simpa using hbg⟩
        rcases hcond with hc1 | ⟨hc1, hc2⟩
        all_goals (
          rw [hc1] at hk0
          go_wp2_with (at_builtin; refine wpList_append_nilA (by rfl) (.tmp 24) (.tmp 25) (by rfl) w.heap.size _ n (cut P (l.take k)) (by rfl) (HOA.out _) wr.heap.size (by rfl) (heap_alloc_new _ _) hby1 (HBA.out _).size ?_; intro A9 cp9 w9 hown9 hb9)
          have hB9 := (HBA.out (.cells #[.slice none 0 0] 40)).trans hb9
          rw [hD1] at hown9
          have HC9 := Lib.hid hown9
          generalize n + 1 = NN at *
          clear hown9 hb9
          obtain ⟨C, y, rfl, hBC, hCl, hnD, m0, mf, hncp, hcpm, hrow, hyC, HNEXT⟩ := HC9.out.last
          obtain ⟨aa, L, yc, rfl⟩ : ∃ aa L yc, y = .slice aa L yc := by
            rcases hrow.2 with ⟨rfl, -⟩ | ⟨_, _, _, rfl, -⟩
            · exact ⟨_, _, _, rfl⟩
            · exact ⟨_, _, _, rfl⟩
          have hL : L = d.length := by
            rcases hrow.2 with ⟨e, h0⟩ | ⟨_, _, _, e, -⟩
            · injection e with _ e _; omega
            · injection e
          rw [← hL] at hrow HNEXT
          have HROW := Lib.hid hrow
          have HNX := Lib.hid HNEXT
          have hby : (L + 1) * 24 ≤ 140737488355328 := by have := HDL.out; omega
          have HYC := Lib.hid hyC
          obtain ⟨DL, hDL⟩ : ∃ m, m = D.length := ⟨_, rfl⟩
          rw [← hDL] at m0 HNX hnD
          have e0 := c0 w9 hB9
          have e1 := c1 w9 hB9
          have e2 := c2 w9 hB9
          have f0 := mf DL
          have hnI : IntKind.i64.wrap ((NN : Int) - 1) = (DL : Int) := by rw [IntWalk.i64_in _ (by omega)]; omega
          have hDI : (DL : Int) < (NN : Int) := by omega
          have hsz := (hB9).size
          have HMF := Lib.hid mf
          have HM0 := Lib.hid m0
          clear hrow HNEXT mf hL hDL hyC hnD hxcl
          go_wp2_with fail
          go_region_law (first | (refine step_lv_lies ?_ (.tmp 36) (.tmp 41) (by rfl) w.heap.size _ L d (by rfl) (World.ownsRow.alloc HROW.out _) _ x (by rfl) (heap_alloc_new _ _) hby ?_ ?_; rfl; (simp; omega); intro b c8 w8 q1 q2 q3 q4; have hCk : w8.heap[C]? = w9.heap[C]? := (q2.block C (by simp; omega) (fun e => HYC.out e.symm)).trans (heap_alloc_old _ _ hCl); have m8 := (cell_heap (o := DL) hCk).trans HM0.out; have f8 := (frozen_heap (o := DL) hCk).trans (HMF.out DL); have l8 : C < w8.heap.size := Nat.lt_of_lt_of_le hCl (Nat.le_trans (by simp) q2.size)))
          all_goals (
            have hbel : Below w.heap.size w w8 := by first | exact (hB9.alloc hsz _).grown q2 (Nat.le_trans hsz (by simp)) (fun q hq => (HROW.out.lt q hq).1) | exact (hB9.alloc hsz _).drew.grown q2 (Nat.le_trans hsz (by simp)) (fun q hq => (HROW.out.lt q hq).1)
            have hF := HNX.out _ w8 b c8 x (by first | exact (Below.refl w9.heap.size w9).alloc (Nat.le_refl _) _ | exact ((Below.refl w9.heap.size w9).alloc (Nat.le_refl _) _).drew) q1 q2 q3
            rw [← HD2.out] at hF
            have HFF := Lib.hid hF
            have HBB := Lib.hid (hbel.setCell (p := ⟨C, DL, none⟩) hBC (.slice (some ⟨b, 0, none⟩) (L + 1) c8))
            clear hF hbel q1 q2 q3 q4 hCk m8 f8 l8 e0 e1 e2 f0 m0
            generalize w8.setCell ⟨C, DL, none⟩ (.slice (some ⟨b, 0, none⟩) (L + 1) c8) = W8 at *
            go_wp2_with fail
            exact ⟨⟨k + 1, NN, some ⟨C, 0, none⟩, cp9, by omega, by go_num, rfl, HBB.out, HFF⟩, by simp [intOf]; omega⟩))
      | false =>
        rw [hbg, if_neg (by simp)] at hD1
        rw [hD1] at HCO
        have hcond : decide (k = 0) = false ∧ decide (x.1 ≤ P) = false := by
          unfold begins at hbg
          simpa using hbg
        obtain ⟨hc1, hc2⟩ := hcond
        rw [hc1] at hk0
        have hbegin : begins P k x = false := hbg
        obtain ⟨NN, hNN⟩ : ∃ m, m = n := ⟨_, rfl⟩
        subst hNN
        obtain ⟨C, y, rfl, hBC, hCl, hnD, m0, mf, hncp, hcpm, hrow, hyC, HNEXT⟩ := HCO.out.last
        obtain ⟨aa, L, yc, rfl⟩ : ∃ aa L yc, y = .slice aa L yc := by
          rcases hrow.2 with ⟨rfl, -⟩ | ⟨_, _, _, rfl, -⟩
          · exact ⟨_, _, _, rfl⟩
          · exact ⟨_, _, _, rfl⟩
        have hL : L = d.length := by
          rcases hrow.2 with ⟨e, h0⟩ | ⟨_, _, _, e, -⟩
          · injection e with _ e _; omega
          · injection e
        rw [← hL] at hrow HNEXT
        have HROW := Lib.hid hrow
        have HNX := Lib.hid HNEXT
        have hby : (L + 1) * 24 ≤ 140737488355328 := by have := HDL.out; omega
        have HYC := Lib.hid hyC
        obtain ⟨DL, hDL⟩ : ∃ m, m = D.length := ⟨_, rfl⟩
        rw [← hDL] at m0 HNX hnD
        have e0 := c0 wr hbw
        have e1 := c1 wr hbw
        have e2 := c2 wr hbw
        have f0 := mf DL
        have hnI : IntKind.i64.wrap ((NN : Int) - 1) = (DL : Int) := by rw [IntWalk.i64_in _ (by omega)]; omega
        have hDI : (DL : Int) < (NN : Int) := by omega
        have hsz := (hbw).size
        have HMF := Lib.hid mf
        have HM0 := Lib.hid m0
        clear hrow HNEXT mf hL hDL hyC hnD hxcl
        go_wp2_with fail
        go_region_law (first | (refine step_lv_lies ?_ (.tmp 36) (.tmp 41) (by rfl) w.heap.size _ L d (by rfl) (World.ownsRow.alloc HROW.out _) _ x (by rfl) (heap_alloc_new _ _) hby ?_ ?_; rfl; (simp; omega); intro b c8 w8 q1 q2 q3 q4; have hCk : w8.heap[C]? = wr.heap[C]? := (q2.block C (by simp; omega) (fun e => HYC.out e.symm)).trans (heap_alloc_old _ _ hCl); have m8 := (cell_heap (o := DL) hCk).trans HM0.out; have f8 := (frozen_heap (o := DL) hCk).trans (HMF.out DL); have l8 : C < w8.heap.size := Nat.lt_of_lt_of_le hCl (Nat.le_trans (by simp) q2.size)))
        all_goals (
          have hbel : Below w.heap.size w w8 := by first | exact (hbw.alloc hsz _).grown q2 (Nat.le_trans hsz (by simp)) (fun q hq => (HROW.out.lt q hq).1) | exact (hbw.alloc hsz _).drew.grown q2 (Nat.le_trans hsz (by simp)) (fun q hq => (HROW.out.lt q hq).1)
          have hF := HNX.out _ w8 b c8 x (by first | exact (Below.refl wr.heap.size wr).alloc (Nat.le_refl _) _ | exact ((Below.refl wr.heap.size wr).alloc (Nat.le_refl _) _).drew) q1 q2 q3
          rw [← HD2.out] at hF
          have HFF := Lib.hid hF
          have HBB := Lib.hid (hbel.setCell (p := ⟨C, DL, none⟩) hBC (.slice (some ⟨b, 0, none⟩) (L + 1) c8))
          clear hF hbel q1 q2 q3 q4 hCk m8 f8 l8 e0 e1 e2 f0 m0
          generalize w8.setCell ⟨C, DL, none⟩ (.slice (some ⟨b, 0, none⟩) (L + 1) c8) = W8 at *
          go_wp2_with fail
          exact ⟨⟨k + 1, NN, some ⟨C, 0, none⟩, cp, by omega, by go_num, rfl, HBB.out, HFF⟩, by simp [intOf]; omega⟩)
    · obtain rfl : k = l.length := by omega
      have HF := Lib.hid (HE.out ▸ HCO.out)
      go_wp2_with fail
      go_ret
      exact ⟨A, cp, n, rfl, HF.out, hbw⟩
end Go.Proofs.Ytjfkoledbegpfaa
/- Words for hypostyleref.cutAll: a row of rows of columns. -/
namespace Go.Proofs.Ytjfkoledbegpfaa
open Go.RowKit
open Sh (Lv cut)
set_option linter.unusedVariables false

theorem info_lvss : (Try.prog.info? 27).map (fun i => (i.zero, i.size, i.bytes)) = some (some (.slice none 0 0), 1, 24) := by kernel_rfl
/-- rows of columns in a row of one's own; no two of them in the same block, and none in block X -/
def CA3 (w : World) (B : Nat) (v : Value) (m : Nat) (G : List (List (List Lv))) (X : Option Nat) : Prop :=
  G.length = m ∧ ∃ vs, w.ownsRow B 27 1 v m vs ∧ (∀ k, k < m → COut w B (vs.getD k undef) (G.getD k []).length (G.getD k [])) ∧
    (∀ i j b, i < m → j < m → i ≠ j → (vs.getD i undef).ownBlock = some b → (vs.getD j undef).ownBlock ≠ some b) ∧ ∀ i b, i < m → (vs.getD i undef).ownBlock = some b → X ≠ some b
theorem CA3.next {w w' : World} {B m : Nat} {v : Value} {G : List (List (List Lv))} {X : Option Nat} (h : CA3 w B v m G X) (hb : Below w.heap.size w w') : CA3 w' B v m G X := by
  obtain ⟨h1, vs, h2, h3, h4⟩ := h
  exact ⟨h1, vs, row_below h2 hb, fun i hi => (h3 i hi).next hb, h4⟩
theorem CA3.free {w : World} {B m : Nat} {v : Value} {G : List (List (List Lv))} {X : Option Nat} (h : CA3 w B v m G X) : CA3 w B v m G none := by
  obtain ⟨h1, vs, h2, h3, h4, h5⟩ := h
  exact ⟨h1, vs, h2, h3, h4, fun i b _ _ e => by cases e⟩
theorem COut.lt {w : World} {B n : Nat} {v : Value} {D : List (List Lv)} (h : COut w B v n D) : ∀ b, v.ownBlock = some b → B ≤ b ∧ b < w.heap.size := by
  obtain ⟨h1, vs, h2, h3⟩ := h
  exact fun b hb => h2.lt b hb
/-- a block that is made behind is none of theirs; nor is one that lies ahead of where they begin -/
theorem CA3.far {w w' : World} {B m : Nat} {v : Value} {G : List (List (List Lv))} {X : Option Nat} (h : CA3 w B v m G none) (hb : Below w.heap.size w w') (hX : ∀ x, X = some x → w.heap.size ≤ x) : CA3 w' B v m G X := by
  obtain ⟨h1, vs, h2, h3, h4, h5⟩ := h
  refine ⟨h1, vs, row_below h2 hb, fun i hi => (h3 i hi).next hb, h4, fun i b hi hbb e => ?_⟩
  have := ((h3 i hi).lt b hbb).2
  have := hX b e
  omega
theorem CA3.far2 {w : World} {B m : Nat} {v : Value} {G : List (List (List Lv))} {X : Option Nat} (h : CA3 w B v m G none) (hX : ∀ x, X = some x → x < B) : CA3 w B v m G X := by
  obtain ⟨h1, vs, h2, h3, h4, h5⟩ := h
  refine ⟨h1, vs, h2, h3, h4, fun i b hi hbb e => ?_⟩
  have := ((h3 i hi).lt b hbb).1
  have := hX b e
  omega
theorem CA3.down {w : World} {B B' m : Nat} {v : Value} {G : List (List (List Lv))} {X : Option Nat} (h : CA3 w B v m G X) (hB : B' ≤ B) : CA3 w B' v m G X := by
  obtain ⟨h1, vs, h2, h3, h4, h5⟩ := h
  exact ⟨h1, vs, own_down h2 hB, fun i hi => (h3 i hi).down hB, h4, h5⟩
theorem COutA.lt {w : World} {B n : Nat} {v : Value} {D : List (List Lv)} (h : COutA w B v n D) : ∀ b, v.ownBlock = some b → B ≤ b ∧ b < w.heap.size := by
  obtain ⟨h1, vs, h2, h3⟩ := h
  exact fun b hb => h2.lt b hb
theorem CA3.nil (w : World) (B : Nat) : CA3 w B (.slice none 0 0) 0 [] none := ⟨rfl, [], World.ownsRow_nil _ _ _ _, fun i hi => absurd hi (Nat.not_lt_zero _), fun i j b hi => absurd hi (Nat.not_lt_zero _), fun i b hi => absurd hi (Nat.not_lt_zero _)⟩
theorem CA3.form {w : World} {B m : Nat} {v : Value} {G : List (List (List Lv))} {X : Option Nat} (h : CA3 w B v m G X) : ∃ A cp, v = .slice A m cp ∧ (A = none → cp = 0) := by
  obtain ⟨h1, vs, h2, h3⟩ := h
  rcases h2.2 with ⟨rfl, h0⟩ | ⟨g, cap, cur, rfl, -⟩
  · exact ⟨none, 0, by rw [h0], fun _ => rfl⟩
  · exact ⟨_, _, rfl, fun e => by cases e⟩
/-- columns stay where only a block changes that is not that of their outer row -/
theorem COut.keepG {w w' : World} {B n : Nat} {v : Value} {D : List (List Lv)} {row : Option Nat} {e : TypeId} {Bq sz nq : Nat} {q : Value} {xq : List Value} (h : COut w B v n D) (hg : w.grownBy w' row) (hq : w.ownsRow Bq e sz q nq xq) (hrow : row = q.ownBlock) (hne : e ≠ 43) (hv : ∀ b, v.ownBlock = some b → row ≠ some b) : COut w' B v n D := by
  obtain ⟨h1, vs, h2, h3⟩ := h
  refine ⟨h1, vs, own_block h2 (fun i hi => hg.block i (h2.lt i hi).2 (fun e2 => hv i hi e2.symm)), fun i hi => own_block (h3 i hi) (fun k hk => hg.block k ((h3 i hi).lt k hk).2 (fun e2 => ?_))⟩
  exact kinds (h3 i hi) hq (fun e3 => hne e3.symm) hk (by rw [← hrow, ← e2])
theorem COut.keepS {w : World} {B n C o : Nat} {v x : Value} {D : List (List Lv)} {e : TypeId} {Bq sz nq cq : Nat} {xq : List Value} (h : COut w B v n D) (hq : w.ownsRow Bq e sz (.slice (some ⟨C, 0, none⟩) nq cq) nq xq) (h1 : e ≠ 43) (h2 : e ≠ 40) : COut (w.setCell ⟨C, o, none⟩ x) B v n D := by
  obtain ⟨k1, vs, k2, k3⟩ := h
  refine ⟨k1, vs, own_block k2 (fun i hi => Below.heap_setCell w _ _ i (fun e2 => kinds k2 hq (fun e3 => h2 e3.symm) hi (by rw [e2]; rfl))), fun i hi => own_block (k3 i hi) (fun k hk => Below.heap_setCell w _ _ k (fun e2 => kinds (k3 i hi) hq (fun e3 => h1 e3.symm) hk (by rw [e2]; rfl)))⟩
/-- one row more, which is empty -/
theorem CA3.more {w w' : World} {B m : Nat} {v v' : Value} {G : List (List (List Lv))} {X : Option Nat} {vs : List Value} (h1 : G.length = m) (h2 : w.ownsRow B 27 1 v m vs) (h3 : ∀ k, k < m → COut w B (vs.getD k undef) (G.getD k []).length (G.getD k []))
    (h4 : ∀ i j b, i < m → j < m → i ≠ j → (vs.getD i undef).ownBlock = some b → (vs.getD j undef).ownBlock ≠ some b) (h5 : ∀ i b, i < m → (vs.getD i undef).ownBlock = some b → X ≠ some b)
    (hr : w'.ownsRow B 27 1 v' (m + 1) (vs ++ [.slice none 0 0])) (hg : w.grownBy w' v.ownBlock) : CA3 w' B v' (m + 1) (G ++ [[]]) X := by
  have hvl : vs.length = m := by rw [h2.1, Nat.mul_one]
  refine ⟨by rw [List.length_append, h1]; rfl, _, hr, fun i hi => ?_, fun i j b hi hj hij hb => ?_, fun i b hi hb => ?_⟩
  · by_cases hlt : i < m
    · rw [getD_snoc_lt (by omega), getD_snoc_lt (by omega)]
      refine (h3 i hlt).keepG hg h2 rfl (by decide) (fun b hb e => ?_)
      obtain ⟨_, us, hu, _⟩ := h3 i hlt
      exact kinds hu h2 (by decide) hb e
    · rw [getD_snoc_eq (show i = vs.length by omega), getD_snoc_eq (show i = G.length by omega)]; exact COut.nil _ _
  · by_cases h : i < m
    · rw [getD_snoc_lt (by omega)] at hb
      by_cases h' : j < m
      · rw [getD_snoc_lt (by omega)]; exact h4 i j b h h' hij hb
      · rw [getD_snoc_eq (by omega)]; intro e; cases e
    · rw [getD_snoc_eq (by omega)] at hb; cases hb
  · by_cases h : i < m
    · rw [getD_snoc_lt (by omega)] at hb; exact h5 i b h hb
    · rw [getD_snoc_eq (by omega)] at hb; cases hb
theorem wpList_append_nil3 {w : World} {ops : Array Oper} {rest : List Oper} {o : Oper} {a : Act} {Q : Exit → Act → World → Prop} (hgd : o.guard = none) (s x : Operand)
    (ho : o.op = .call { callee := .builtin .append, args := #[s, x], argTypes := #[68, 68] }) (base : Nat)
    (v : Value) (n : Nat) (G : List (List (List Lv))) (X : Option Nat) (hs : a.eval s = v) (hown : CA3 w base v n G X)
    (g : Nat) (hx : a.eval x = .slice (some ⟨g, 0, none⟩) 1 1) (hblk : w.heap[g]? = some (.cells #[.slice none 0 0] 27 (0, 0)))
    (hbytes : (n + 1) * 24 ≤ 140737488355328) (hbase : base ≤ w.heap.size)
    (h : ∀ A' cp w', CA3 w' base (.slice A' (n + 1) cp) (n + 1) (G ++ [[]]) X → Below base w w' → wpList Try.prog ops Q rest (a.put o.dst (.slice A' (n + 1) cp)) w') : wpList Try.prog ops Q (o :: rest) a w := by
  obtain ⟨hn, vs, h2, h3, h4, h5⟩ := hown
  obtain ⟨i, hi, hz0, hz1, hz2⟩ := info_parts info_lvss
  refine wpList_append_lies w hgd s x 68 ho base 27 i (.slice none 0 0) 1 24 Try.underlying68 hi hz0 hz1 hz2 rfl (by decide) v n vs hs h2 ⟨g, 0, none⟩ 1 1 [.slice none 0 0] hx rfl (World.news_of_block hblk) ?_ (by decide) (by unfold maxLen; omega) hbytes hbase _ rfl ?_
  · intro u hu
    rw [List.mem_singleton.1 hu]; rfl
  · intro g' cap w' q1 q2 q3 q4
    exact h _ cap w' (CA3.more hn h2 h3 h4 h5 q1 q2) ((Below.refl base w).grown q2 hbase (fun k hk => (h2.lt k hk).1))
/-- what stands at a place, and what becomes of all when one column is put behind it -/
theorem CA3.at {w : World} {B m cp k : Nat} {A : Option Addr} {G : List (List (List Lv))} {X : Option Nat} (h : CA3 w B (.slice A m cp) m G X) (hk : k < m) : ∃ C y, A = some ⟨C, 0, none⟩ ∧ B ≤ C ∧ C < w.heap.size ∧ w.cell? ⟨C, k, none⟩ = some y ∧ (∀ j, w.frozen? ⟨C, j, none⟩ = false) ∧ m ≤ cp ∧ cp ≤ maxLen ∧
    COut w B y (G.getD k []).length (G.getD k []) ∧ y.ownBlock ≠ some C ∧ (∀ b, y.ownBlock = some b → X ≠ some b) ∧
    (∀ (w2 w' : World) (b c : Nat) (l : List Lv), Below w.heap.size w w2 → COut w' B (.slice (some ⟨b, 0, none⟩) ((G.getD k []).length + 1) c) ((G.getD k []).length + 1) (G.getD k [] ++ [l]) → w2.grownBy w' y.ownBlock → (y.ownBlock = some b ∨ b = w2.heap.size) → (∀ x, X = some x → x < w2.heap.size) →
      CA3 (w'.setCell ⟨C, k, none⟩ (.slice (some ⟨b, 0, none⟩) ((G.getD k []).length + 1) c)) B (.slice A m cp) m (G.set k (G.getD k [] ++ [l])) X) := by
  obtain ⟨h1, vs, h2, h3, h4, h5⟩ := h
  have hvl : vs.length = m := by rw [h2.1, Nat.mul_one]
  rcases h2.2 with ⟨e, h0⟩ | ⟨g, cap, cur, e, e2, e3, e4, e5, e6⟩
  · omega
  injection e with e1 e1b e1c
  subst e1
  subst e1c
  have hrow := h3 k hk
  obtain ⟨hr1, us, hus, hus3⟩ := hrow
  have hyC : (vs.getD k undef).ownBlock ≠ some g := fun e => kinds hus h2 (by decide) e rfl
  refine ⟨g, vs.getD k undef, rfl, e2, (h2.lt g rfl).2, ?_, fun j => h2.frozenAt _, e4, e5, ⟨hr1, us, hus, hus3⟩, hyC, fun b hb => h5 k b hk hb, ?_⟩
  · rw [h2.cellAt k (by omega)]; simp [List.getD, List.getElem?_eq_getElem (show k < vs.length by omega)]
  intro w2 w' b c l hb hr hg hor hX
  have hk2 : ∀ i, i < w.heap.size → (vs.getD k undef).ownBlock ≠ some i → w'.heap[i]? = w.heap[i]? := fun i hi hne => (hg.block i (Nat.lt_of_lt_of_le hi hb.size) (fun e => hne e.symm)).trans (hb.block i hi)
  have h2' : w'.ownsRow B 27 1 (.slice (some ⟨g, 0, none⟩) m cp) m vs := own_block h2 (fun i e => hk2 i (h2.lt i e).2 (fun e2 => kinds hus h2 (by decide) e2 e))
  have h2s := (World.ownsRow.stored h2' k (.slice (some ⟨b, 0, none⟩) ((G.getD k []).length + 1) c)).1
  obtain ⟨hq1, uq, huq, huq3⟩ := hr
  have hbC : b ≠ g := fun e => kinds huq h2' (by decide) (g := b) rfl (by rw [e]; rfl)
  have hgs : ∀ i, i ≠ k → (vs.set k (.slice (some ⟨b, 0, none⟩) ((G.getD k []).length + 1) c)).getD i undef = vs.getD i undef := fun i hi => by simp [List.getD, List.getElem?_set_ne (Ne.symm hi)]
  have hge : (vs.set k (.slice (some ⟨b, 0, none⟩) ((G.getD k []).length + 1) c)).getD k undef = .slice (some ⟨b, 0, none⟩) ((G.getD k []).length + 1) c := by simp [List.getD, show k < vs.length by omega]
  have hGs : ∀ i, i ≠ k → (G.set k (G.getD k [] ++ [l])).getD i [] = G.getD i [] := fun i hi => by simp [List.getD, List.getElem?_set_ne (Ne.symm hi)]
  have hGe : (G.set k (G.getD k [] ++ [l])).getD k [] = G.getD k [] ++ [l] := by simp [List.getD, show k < G.length by omega]
  have hnew : ∀ i q, i < m → i ≠ k → (vs.getD i undef).ownBlock = some q → q ≠ b := fun i q hi hne hq e => by
    subst e
    rcases hor with ho | ho
    · exact h4 k i q hk hi (Ne.symm hne) ho hq
    · have := ((h3 i hi).lt q hq).2
      have := hb.size
      omega
  refine ⟨by rw [List.length_set, h1], vs.set k (.slice (some ⟨b, 0, none⟩) ((G.getD k []).length + 1) c), by simpa using h2s, fun i hi => ?_, fun i j bb hi hj hij hbb => ?_, fun i bb hi hbb => ?_⟩
  · by_cases hik : i = k
    · subst hik
      rw [hge, hGe, List.length_append, List.length_singleton]
      exact COut.keepS ⟨hq1, uq, huq, huq3⟩ h2' (by decide) (by decide)
    · rw [hgs i hik, hGs i hik]
      obtain ⟨g1, gs, g2, g3⟩ := h3 i hi
      have hA : COut w' B (vs.getD i undef) (G.getD i []).length (G.getD i []) :=
        ⟨g1, gs, own_block g2 (fun q e => hk2 q (g2.lt q e).2 (fun e3 => h4 i k q hi hk hik e e3)), fun j hj => own_block (g3 j hj) (fun q e => hk2 q ((g3 j hj).lt q e).2 (fun e3 => kinds (g3 j hj) hus (by decide) e e3))⟩
      exact hA.keepS h2' (by decide) (by decide)
  · by_cases hik : i = k
    · subst hik
      rw [hge] at hbb
      rw [hgs j (Ne.symm hij)]
      intro e
      exact hnew j bb hj (Ne.symm hij) e (Option.some.inj hbb).symm
    · rw [hgs i hik] at hbb
      by_cases hjk : j = k
      · subst hjk
        rw [hge]
        intro e
        exact hnew i bb hi hik hbb (Option.some.inj e).symm
      · rw [hgs j hjk]
        exact h4 i j bb hi hj hij hbb
  · by_cases hik : i = k
    · subst hik
      rw [hge] at hbb
      have hbb : b = bb := Option.some.inj hbb
      subst hbb
      intro e
      rcases hor with ho | ho
      · exact h5 i b hi ho e
      · have := hX b e; omega
    · rw [hgs i hik] at hbb; exact h5 i bb hi hbb
/-- other columns, when a row of these grows and is put back -/
theorem CA3.keep {w w2 w' : World} {B B' m cp C k n : Nat} {G : List (List (List Lv))} {X : Option Nat} {y v u : Value} {D : List (List Lv)} (h : CA3 w B (.slice (some ⟨C, 0, none⟩) m cp) m G X) (hk : k < m) (hc : w.cell? ⟨C, k, none⟩ = some y)
    (hb : Below w.heap.size w w2) (hg : w2.grownBy w' y.ownBlock) (hv : COut w2 B' v n D) (hne : ∀ b, v.ownBlock = some b → y.ownBlock ≠ some b) : COut (w'.setCell ⟨C, k, none⟩ u) B' v n D := by
  obtain ⟨h1, vs, h2, h3, h4, h5⟩ := h
  have hvl : vs.length = m := by rw [h2.1, Nat.mul_one]
  have hy : y = vs.getD k undef := by
    rw [h2.cellAt k (by omega), List.getElem?_eq_getElem (show k < vs.length by omega)] at hc
    have := Option.some.inj hc
    rw [← this]; simp [List.getD, List.getElem?_eq_getElem (show k < vs.length by omega)]
  subst hy
  obtain ⟨hr1, us, hus, hus3⟩ := h3 k hk
  have hk2 : ∀ i, i < w.heap.size → (vs.getD k undef).ownBlock ≠ some i → w'.heap[i]? = w.heap[i]? := fun i hi hne => (hg.block i (Nat.lt_of_lt_of_le hi hb.size) (fun e => hne e.symm)).trans (hb.block i hi)
  have h2' : w'.ownsRow B 27 1 (.slice (some ⟨C, 0, none⟩) m cp) m vs := own_block h2 (fun i e => hk2 i (h2.lt i e).2 (fun e2 => kinds hus h2 (by decide) e2 e))
  exact (hv.keepG hg (row_below hus hb) rfl (by decide) hne).keepS h2' (by decide) (by decide)
/-- the value at a place, and that it is a row of one's own -/
theorem COut.at2 {w : World} {B n cp : Nat} {A : Option Addr} {D : List (List Lv)} (h : COut w B (.slice A n cp) n D) {i : Nat} (hi : i < n) : ∃ g aa L c, A = some ⟨g, 0, none⟩ ∧ g < w.heap.size ∧ L = (D.getD i []).length ∧ w.cell? ⟨g, i, none⟩ = some (.slice aa L c) ∧ w.ownsRow B 43 3 (.slice aa L c) (D.getD i []).length (lvals (D.getD i [])) ∧ n ≤ cp ∧ cp ≤ maxLen := by
  obtain ⟨h1, vs, h2, h3⟩ := h
  have hvl : vs.length = n := by rw [h2.1, Nat.mul_one]
  rcases h2.2 with ⟨e, h0⟩ | ⟨g, cap, cur, e, e2, e3, e4, e5, e6⟩
  · omega
  · injection e with e1 e2' e3'
    subst e1
    subst e3'
    have hr := h3 i hi
    obtain ⟨aa, c, f1, -⟩ := lvs_row hr
    refine ⟨g, aa, _, c, rfl, (h2.lt g rfl).2, rfl, ?_, ?_, e4, e5⟩
    · rw [h2.cellAt i (by omega), ← f1]; simp [List.getD, List.getElem?_eq_getElem (show i < vs.length by omega)]
    · rw [← f1]; exact hr
theorem step_col_lies {w : World} {ops : Array Oper} {o : Oper} {a : Act} {K : Act → World → Prop} {Q : Exit → Act → World → Prop} {E : Prop} (hw : Region.wanted o (yielded ops a.tmps) = true) (s x : Operand)
    (ho : o.op = .call { callee := .builtin .append, args := #[s, x], argTypes := #[27, 27] }) (base : Nat)
    (v : Value) (n : Nat) (D : List (List Lv)) (hs : a.eval s = v) (hown : COut w base v n D)
    (g : Nat) (y : Value) (l : List Lv) (hy : w.ownsRow base 43 3 y l.length (lvals l)) (hx : a.eval x = .slice (some ⟨g, 0, none⟩) 1 1) (hblk : w.heap[g]? = some (.cells #[y] 40 (0, 0)))
    (hbytes : (n + 1) * 24 ≤ 140737488355328) (hbase : base ≤ w.heap.size)
    (h : ∀ b c w', COut w' base (.slice (some ⟨b, 0, none⟩) (n + 1) c) (n + 1) (D ++ [l]) → w.grownBy w' v.ownBlock → (v.ownBlock = some b ∨ b = w.heap.size) → b < w'.heap.size → K (a.put o.dst (.slice (some ⟨b, 0, none⟩) (n + 1) c)) w') :
    if Region.wanted o (yielded ops a.tmps) = true then Oper.wp Try.prog o a w K Q else E := by
  rw [if_pos hw]
  obtain ⟨hn, vs, h2, h3⟩ := hown
  obtain ⟨i, hi, hz0, hz1, hz2⟩ := info_parts info_lvs
  refine wp_append_lies w s x 27 ho base 40 i (.slice none 0 0) 1 24 Try.underlying27 hi hz0 hz1 hz2 rfl (by decide) v n vs hs h2 ⟨g, 0, none⟩ 1 1 [y] hx rfl (World.news_of_block hblk) ?_ (by decide) (by unfold maxLen; omega) hbytes hbase _ rfl ?_
  · intro u hu
    rw [List.mem_singleton.1 hu]
    rcases hy.2 with ⟨rfl, -⟩ | ⟨_, _, _, rfl, -⟩ <;> rfl
  · intro g' cap w' q1 q2 q3 q4
    exact h g' cap w' (COut.snoc hn h2 h3 hy q1 q2) q2 q3 q4
end Go.Proofs.Ytjfkoledbegpfaa
/- The walk of hypostyleref.cutAll. -/
namespace Go.Proofs.Ytjfkoledbegpfaa
open Go.RowKit
open Sh (Lv cut)
set_option linter.unusedVariables false

/-- the q-th part of each of the first columns -/
def rowP (P : Int) (cols : List (List Lv)) (i q : Nat) : List (List Lv) := (cols.take i).map fun c => (cut P c).getD q []
def GM (P : Int) (cols : List (List Lv)) (m i k : Nat) : List (List (List Lv)) := (List.range m).map fun q => if q < k then rowP P cols (i + 1) q else rowP P cols i q
theorem rowP_length (P : Int) (cols : List (List Lv)) (i q : Nat) (hi : i ≤ cols.length) : (rowP P cols i q).length = i := by unfold rowP; rw [List.length_map, List.length_take]; omega
theorem rowP_succ (P : Int) (cols : List (List Lv)) (i q : Nat) (hi : i < cols.length) : rowP P cols (i + 1) q = rowP P cols i q ++ [(cut P (cols.getD i [])).getD q []] := by
  unfold rowP
  rw [gtake_succ [] cols i hi, List.map_append]; rfl
theorem GM_length (P : Int) (cols : List (List Lv)) (m i k : Nat) : (GM P cols m i k).length = m := by unfold GM; rw [List.length_map, List.length_range]
theorem GM_at (P : Int) (cols : List (List Lv)) (m i k q : Nat) (hq : q < m) : (GM P cols m i k).getD q [] = if q < k then rowP P cols (i + 1) q else rowP P cols i q := by
  unfold GM; simp [List.getD, hq]
theorem GM_step (P : Int) (cols : List (List Lv)) (m i k : Nat) (hk : k < m) (hi : i < cols.length) : GM P cols m i (k + 1) = (GM P cols m i k).set k ((GM P cols m i k).getD k [] ++ [(cut P (cols.getD i [])).getD k []]) := by
  rw [GM_at P cols m i k k hk, if_neg (Nat.lt_irrefl k), ← rowP_succ P cols i k hi]
  apply List.ext_getElem?
  intro q
  rw [List.getElem?_set, GM_length]
  unfold GM
  simp only [List.getElem?_map]
  by_cases hq : q < m
  · rw [List.getElem?_range hq]
    simp only [Option.map_some]
    by_cases h : k = q
    · subst h
      rw [if_pos rfl, if_pos hk, if_pos (by omega)]
    · rw [if_neg h]
      by_cases h' : q < k
      · rw [if_pos h', if_pos (by omega)]
      · rw [if_neg h', if_neg (by omega)]
  · rw [List.getElem?_eq_none (by simpa using hq)]
    rw [if_neg (by omega)]
    rfl
theorem GM_all (P : Int) (cols : List (List Lv)) (m i : Nat) : GM P cols m i m = GM P cols m (i + 1) 0 := by
  unfold GM
  apply List.map_congr_left
  intro q hq
  have := List.mem_range.1 hq
  rw [if_pos this, if_neg (by omega)]
theorem GM_zero (P : Int) (cols : List (List Lv)) (m : Nat) : GM P cols m 0 0 = List.replicate m [] := by
  unfold GM
  apply List.ext_getElem
  · simp
  · intro q h1 h2
    simp [rowP]
/-- where cutting stands ahead of column i -/
def CSt (P : Int) (cols : List (List Lv)) (i m : Nat) (G : List (List (List Lv))) : Prop := (i = 0 ∧ m = 0 ∧ G = []) ∨ (0 < i ∧ m = (cut P (cols.headD [])).length ∧ G = GM P cols m i 0 ∧ ∀ j, j < i → (cut P (cols.getD j [])).length = m)
theorem headD_getD (cols : List (List Lv)) : cols.headD [] = cols.getD 0 [] := by cases cols <;> rfl
theorem cst_end (P : Int) (cols : List (List Lv)) (m : Nat) (G : List (List (List Lv))) (h : CSt P cols cols.length m G) : Sh.cutAll P cols = some G ∧ G.length = m := by
  rcases h with ⟨h0, rfl, rfl⟩ | ⟨h0, h1, rfl, h2⟩
  · have := List.eq_nil_of_length_eq_zero h0
    subst this
    exact ⟨rfl, rfl⟩
  · refine ⟨?_, GM_length _ _ _ _ _⟩
    unfold Sh.cutAll
    rw [if_pos, ← h1]
    · congr 1
      unfold GM
      apply List.map_congr_left
      intro q hq
      rw [if_neg (by omega)]
      unfold rowP
      rw [List.take_length]
    · intro c hc
      obtain ⟨j, hj, rfl⟩ := List.mem_iff_getElem.1 hc
      have := h2 j hj
      rw [← h1, ← this]
      simp [List.getD, List.getElem?_eq_getElem hj]
theorem cst_bad (P : Int) (cols : List (List Lv)) (i : Nat) (hi : i < cols.length) (h : (cut P (cols.getD i [])).length ≠ (cut P (cols.headD [])).length) : Sh.cutAll P cols = none := by
  unfold Sh.cutAll
  rw [if_neg]
  intro hh
  exact h (hh _ (by simp only [List.getD, List.getElem?_eq_getElem hi, Option.getD_some]; exact List.getElem_mem hi))
def CAPost (w : World) (R : Option (List (List (List Lv)))) (e : Ending) (w' : World) : Prop :=
  Below w.heap.size w w' ∧ match R with
  | none => e = .returned (.tuple #[.slice none 0 0, .bool false])
  | some G => ∃ A cp m, e = .returned (.tuple #[.slice A m cp, .bool true]) ∧ m = G.length ∧ CA3 w' w.heap.size (.slice A m cp) m G none
set_option maxHeartbeats 8000000 in
set_option maxRecDepth 100000 in
theorem cutAll_any (ca : Option Addr) (ccap : Nat) (cols : List (List Lv)) (P : Int) (w : World) (hl : cols.length ≤ 1048576) (hlv : ∀ i, (cols.getD i []).length ≤ 1048576) (hu : LRows w w.heap.size ca cols) :
    Calls Try.prog 36 #[.slice ca cols.length ccap, .int .i64 P] w (CAPost w (Sh.cutAll P cols)) := by
  have HU := Lib.hid hu
  have HLV := Lib.hid hlv
  have HEND := Lib.hid (fun m G h => cst_end P cols m G h)
  have HBAD := Lib.hid (fun i hi h => cst_bad P cols i hi h)
  generalize Sh.cutAll P cols = R at *
  clear hu hlv
  go_enter Try.func36, Try.ntmps36
  go_wp2_with fail
  go_loopw [6, 7, 8, 9, 10] (fun v6 v7 _ _ _ wr => ∃ (i m : Nat) (A : Option Addr) (cp : Nat) (G : List (List (List Lv))), i ≤ cols.length ∧ v7 = .int .i64 i ∧ v6 = .slice A m cp ∧ Below w.heap.size w wr ∧ Hid (CA3 wr w.heap.size (.slice A m cp) m G none) ∧ Hid (CSt P cols i m G) ∧ (i = 0 → A = none ∧ cp = 0)) (fun _ v7 _ _ _ _ => cols.length - (intOf v7).toNat)
  case atStart => exact ⟨0, 0, none, 0, [], Nat.zero_le _, rfl, rfl, Below.refl _ _, Lib.hid (CA3.nil _ _), Lib.hid (Or.inl ⟨rfl, rfl, rfl⟩), fun _ => ⟨rfl, rfl⟩⟩
  case round =>
    obtain ⟨i, m, A, cp, G, hi, rfl, rfl, hbw, HG, HS, hAi⟩ := hrel
    rename World => wr
    by_cases hlt : i < cols.length
    · obtain ⟨bb, off, aa, acap, rfl, hbb, k0, hlvs, hacap, hacm, hlok⟩ := HU.out.at hlt
      have hll := HLV.out i
      have c0 := (hbw.cell (p := ⟨bb, off + i, none⟩) hbb).trans k0
      have HCUT := Lib.hid (cutAt_any aa acap (cols.getD i []) P wr hll ((hlvs.below hbw).mono hbw.size))
      have hii : (i : Int) < (cols.length : Int) := by omega
      obtain ⟨ll, hlln⟩ : ∃ n, n = (cols.getD i []).length := ⟨_, rfl⟩
      rw [← hlln] at c0 HCUT hacap
      have HDN := Lib.hid (cut_ne P (cols.getD i []) (cols.getD i []).length (Nat.le_refl _))
      rw [List.take_length] at HDN
      have HDN := Lib.hid (show (cut P (cols.getD i [])).length ≤ 1048576 from Nat.le_trans HDN.out hll)
      obtain ⟨DD, hDD⟩ : ∃ D, D = cut P (cols.getD i []) := ⟨_, rfl⟩
      rw [← hDD] at HCUT HDN
      have HDD := Lib.hid hDD
      clear k0 hlvs hlok hacap hacm hlln hll hDD
      go_wp2_with fail
      refine (HCUT.out).mono ?_
      rintro e w5 ⟨PA, pcp, n, rfl, hpa, hb5⟩
      have hn : n = DD.length := hpa.1.symm
      have HPA := Lib.hid hpa
      have HN := Lib.hid hn
      have hn20 : n ≤ 1048576 := by rw [hn]; exact HDN.out
      have hB5 := below_then hbw (hb5.mono (Nat.le_refl _) : Below wr.heap.size wr w5) |> fun h => hbw.trans (hb5.mono hbw.size)
      have HB5 := Lib.hid hb5
      clear c0 HCUT hpa hn hb5
      by_cases hi0 : i = 0
      · subst hi0
        have hs0 : m = 0 ∧ G = [] := by
          rcases HS.out with ⟨_, h1, h2⟩ | ⟨h, _⟩
          · exact ⟨h1, h2⟩
          · omega
        obtain ⟨rfl, rfl⟩ := hs0
        obtain ⟨rfl, rfl⟩ := hAi rfl
        clear hAi HS HG
        go_wp2_with fail
        go_loopw [6, 9] (fun v6 v9 wq => ∃ (k : Nat) (A : Option Addr) (cp : Nat), k ≤ n ∧ v9 = .int .i64 k ∧ v6 = .slice A k cp ∧ Below w5.heap.size w5 wq ∧ Hid (CA3 wq w5.heap.size (.slice A k cp) k (List.replicate k []) none)) (fun _ v9 _ => n - (intOf v9).toNat)
        case' atStart => exact ⟨0, none, 0, Nat.zero_le _, rfl, rfl, Below.refl _ _, Lib.hid (CA3.nil _ _)⟩
        case' round =>
          obtain ⟨k, A, cp, hk, rfl, rfl, hbq, HG⟩ := hrel
          rename World => wq
          by_cases hkn : k < n
          · have hkI : (k : Int) < (n : Int) := by omega
            have hby1 : (k + 1) * 24 ≤ 140737488355328 := by omega
            have HOA := Lib.hid (fun o => HG.out.next ((Below.refl wq.heap.size wq).alloc (Nat.le_refl _) o))
            have HBA := Lib.hid (fun o => hbq.alloc hbq.size o)
            go_wp2_with (at_builtin; refine wpList_append_nil3 (by rfl) (.tmp 31) (.tmp 32) (by rfl) w5.heap.size _ k (List.replicate k []) none (by rfl) (HOA.out _) wq.heap.size (by rfl) (heap_alloc_new _ _) hby1 (HBA.out _).size ?_; intro A9 cp9 w9 hown9 hb9)
            have hB9 := (HBA.out (.cells #[.slice none 0 0] 27)).trans hb9
            exact ⟨⟨k + 1, A9, cp9, by omega, by go_num, rfl, hB9, Lib.hid (by rw [← rep_snoc]; exact hown9)⟩, by simp [intOf]; omega⟩
          · obtain rfl : k = n := by omega
            have hkI : ¬ (k : Int) < (k : Int) := by omega
            have HPA2 := Lib.hid ((HPA.out.next hbq).co)
            have HXO := Lib.hid (fun x (hx : (Value.slice PA k pcp).ownBlock = some x) => (HPA.out.lt x hx).2)
            have HG2 := Lib.hid ((HG.out.far2 HXO.out).down hB5.size)
            have hB6 := hB5.trans (hbq.mono hB5.size)
            have HGM := Lib.hid (GM_zero P cols k)
            have hm0 : (cut P (cols.headD [])).length = k := by rw [headD_getD, ← HDD.out, HN.out]
            rw [← HGM.out] at HG2
            clear HG hbq HPA HXO HGM
            have HM0 := Lib.hid hm0
            have HPREV := Lib.hid (show ∀ j, j < 0 → (cut P (cols.getD j [])).length = k from fun j hj => absurd hj (Nat.not_lt_zero _))
            go_wp2_with fail
            go_loopw [10] (fun v10 wz => ∃ k3 : Nat, k3 ≤ k ∧ v10 = .int .i64 k3 ∧ Below w.heap.size w wz ∧ Hid (CA3 wz w.heap.size (.slice A k cp) k (GM P cols k 0 k3) (Value.slice PA k pcp).ownBlock) ∧ Hid (COut wz wr.heap.size (.slice PA k pcp) k DD)) (fun v10 _ => k - (intOf v10).toNat)
            case' atStart => exact ⟨0, Nat.zero_le _, rfl, hB6, HG2, HPA2⟩
            case' round =>
              obtain ⟨k3, hk3, rfl, hbz, HG3, HP3⟩ := hrel
              rename World => wz
              by_cases hkn : k3 < k
              · obtain ⟨C, y, rfl, hBC, hCl, m0, mf, hmcp, hcpm, hrow, hyC, hyX, HNEXT⟩ := HG3.out.at hkn
                obtain ⟨g, pa, pL, pc, rfl, hgl, hpL, p0, prow, hncp2, hpcm⟩ := HP3.out.at2 hkn
                have hlen : ((GM P cols k 0 k3).getD k3 []).length = 0 := by rw [GM_at P cols _ _ k3 k3 hkn, if_neg (Nat.lt_irrefl _), rowP_length P cols _ _ (by omega)]
                have HSTP := Lib.hid (GM_step P cols k 0 k3 hkn hlt)
                obtain ⟨ya, yc, rfl⟩ : ∃ ya yc, y = .slice ya 0 yc := by
                  obtain ⟨a1, c1, e1, _⟩ := hrow.form
                  exact ⟨a1, c1, by rw [e1, hlen]⟩
                rw [hlen] at hrow HNEXT
                rw [← HDD.out] at HSTP
                have hyg : (Value.slice ya 0 yc).ownBlock ≠ some g := fun e => hyX g e rfl
                have HROW := Lib.hid hrow
                have HNX := Lib.hid HNEXT
                have HPR := Lib.hid (own_down prow (show w.heap.size ≤ wr.heap.size from hbw.size))
                have HYG := Lib.hid hyg
                have HYC := Lib.hid hyC
                have HMF := Lib.hid mf
                have HM0C := Lib.hid m0
                have hby : (0 + 1) * 24 ≤ 140737488355328 := by omega
                have hsz := hbz.size
                have f0 := mf k3
                have hkI : (k3 : Int) < (k : Int) := by omega
                generalize (GM P cols k 0 k3).getD k3 [] = GK at *
                generalize DD.getD k3 [] = part at *
                clear hrow HNEXT mf hyg hyC hyX prow hlen hpL
                go_wp2_with fail
                go_region_law (first | (refine step_col_lies ?_ (.tmp 50) (.tmp 55) (by rfl) w.heap.size _ 0 GK (by rfl) (by first | exact HROW.out.next ((Below.refl wz.heap.size wz).alloc (Nat.le_refl _) _) | exact HROW.out.next ((Below.refl wz.heap.size wz).alloc (Nat.le_refl _) _).drew) _ _ part (World.ownsRow.alloc HPR.out _) (by rfl) (heap_alloc_new _ _) hby ?_ ?_; rfl; (simp; omega); intro b c8 w8 q1 q2 q3 q4; have hCk : w8.heap[C]? = wz.heap[C]? := (q2.block C (by simp; omega) (fun e => HYC.out e.symm)).trans (heap_alloc_old _ _ hCl); have m8 := (cell_heap (o := k3) hCk).trans HM0C.out; have f8 := (frozen_heap (o := k3) hCk).trans (HMF.out k3); have l8 : C < w8.heap.size := Nat.lt_of_lt_of_le hCl (Nat.le_trans (by simp) q2.size)))
                all_goals (
                  have hb2 : Below w.heap.size w w8 := by first | exact (hbz.alloc hsz _).grown q2 (Nat.le_trans hsz (by simp)) (fun q hq => HROW.out.lt q hq |>.1) | exact (hbz.alloc hsz _).drew.grown q2 (Nat.le_trans hsz (by simp)) (fun q hq => HROW.out.lt q hq |>.1)
                  have hF := HNX.out _ w8 b c8 part (by first | exact (Below.refl wz.heap.size wz).alloc (Nat.le_refl _) _ | exact ((Below.refl wz.heap.size wz).alloc (Nat.le_refl _) _).drew) q1 q2 q3 (fun x hx => by have := Option.some.inj hx; have h9 : x = g := this.symm; rw [h9]; exact Nat.lt_of_lt_of_le hgl (by simp))
                  rw [← HSTP.out] at hF
                  have HFF := Lib.hid hF
                  have hK := CA3.keep (u := .slice (some ⟨b, 0, none⟩) (0 + 1) c8) HG3.out hkn HM0C.out (by first | exact (Below.refl wz.heap.size wz).alloc (Nat.le_refl _) _ | exact ((Below.refl wz.heap.size wz).alloc (Nat.le_refl _) _).drew) q2 (by first | exact HP3.out.next ((Below.refl wz.heap.size wz).alloc (Nat.le_refl _) _) | exact HP3.out.next ((Below.refl wz.heap.size wz).alloc (Nat.le_refl _) _).drew) (fun q hq e => HYG.out (by have := Option.some.inj hq; have h9 : q = g := this.symm; rw [e, h9]))
                  have HKK := Lib.hid hK
                  have HBB := Lib.hid (hb2.setCell (p := ⟨C, k3, none⟩) hBC (.slice (some ⟨b, 0, none⟩) (0 + 1) c8))
                  clear hF hK hb2 q1 q2 q3 q4 hCk m8 f8 l8 m0 p0 f0
                  generalize w8.setCell ⟨C, k3, none⟩ (.slice (some ⟨b, 0, none⟩) (0 + 1) c8) = W8 at *
                  go_wp2_with fail
                  exact ⟨⟨k3 + 1, by omega, by go_num, HBB.out, HFF, HKK⟩, by simp [intOf]; omega⟩)
              · obtain rfl : k3 = k := by omega
                have hkI : ¬ (k3 : Int) < (k3 : Int) := by omega
                have HGF := Lib.hid (show CA3 wz w.heap.size (.slice A k3 cp) k3 (GM P cols k3 (0 + 1) 0) none by rw [← GM_all]; exact HG3.out.free)
                have HCS := Lib.hid (show CSt P cols (0 + 1) k3 (GM P cols k3 (0 + 1) 0) from Or.inr ⟨by omega, HM0.out.symm, rfl, fun j hj => by
                  by_cases h : j = 0
                  · subst h; rw [← HDD.out]; exact HN.out.symm
                  · exact HPREV.out j (by omega)⟩)
                clear HG3 HP3
                go_wp2_with fail
                exact ⟨⟨0 + 1, k3, A, cp, _, by omega, by go_num, rfl, hbz, HGF, HCS, fun h => absurd h (by omega)⟩, by simp [intOf]; omega⟩
      · have hs1 : m = (cut P (cols.headD [])).length ∧ G = GM P cols m i 0 ∧ ∀ j, j < i → (cut P (cols.getD j [])).length = m := by
          rcases HS.out with ⟨h, _⟩ | ⟨_, h1, h2, h3⟩
          · exact absurd h hi0
          · exact ⟨h1, h2, h3⟩
        obtain ⟨hm0, rfl, hprev⟩ := hs1
        have hiN : ((i : Int) == 0) = false := by rw [beq_eq_false_iff_ne]; omega
        by_cases hnm : n = m
        · subst hnm
          have HM0 := Lib.hid hm0.symm
          have HPREV := Lib.hid hprev
          have HG2 := Lib.hid (HG.out.far (X := (Value.slice PA n pcp).ownBlock) HB5.out (fun x hx => (HPA.out.lt x hx).1))
          have HPA2 := Lib.hid HPA.out.co
          clear HS HG HPA hprev hm0 hAi hi0
          go_wp2_with fail
          go_loopw [10] (fun v10 wz => ∃ k3 : Nat, k3 ≤ n ∧ v10 = .int .i64 k3 ∧ Below w.heap.size w wz ∧ Hid (CA3 wz w.heap.size (.slice A n cp) n (GM P cols n i k3) (Value.slice PA n pcp).ownBlock) ∧ Hid (COut wz wr.heap.size (.slice PA n pcp) n DD)) (fun v10 _ => n - (intOf v10).toNat)
          case' atStart => exact ⟨0, Nat.zero_le _, rfl, hB5, HG2, HPA2⟩
          case' round =>
            obtain ⟨k3, hk3, rfl, hbz, HG3, HP3⟩ := hrel
            rename World => wz
            by_cases hkn : k3 < n
            · obtain ⟨C, y, rfl, hBC, hCl, m0, mf, hmcp, hcpm, hrow, hyC, hyX, HNEXT⟩ := HG3.out.at hkn
              obtain ⟨g, pa, pL, pc, rfl, hgl, hpL, p0, prow, hncp2, hpcm⟩ := HP3.out.at2 hkn
              have hlen : ((GM P cols n i k3).getD k3 []).length = i := by rw [GM_at P cols _ _ k3 k3 hkn, if_neg (Nat.lt_irrefl _), rowP_length P cols _ _ (by omega)]
              have HSTP := Lib.hid (GM_step P cols n i k3 hkn hlt)
              obtain ⟨ya, yc, rfl⟩ : ∃ ya yc, y = .slice ya i yc := by
                obtain ⟨a1, c1, e1, _⟩ := hrow.form
                exact ⟨a1, c1, by rw [e1, hlen]⟩
              rw [hlen] at hrow HNEXT
              rw [← HDD.out] at HSTP
              have hyg : (Value.slice ya i yc).ownBlock ≠ some g := fun e => hyX g e rfl
              have HROW := Lib.hid hrow
              have HNX := Lib.hid HNEXT
              have HPR := Lib.hid (own_down prow (show w.heap.size ≤ wr.heap.size from hbw.size))
              have HYG := Lib.hid hyg
              have HYC := Lib.hid hyC
              have HMF := Lib.hid mf
              have HM0C := Lib.hid m0
              have hby : (i + 1) * 24 ≤ 140737488355328 := by omega
              have hsz := hbz.size
              have f0 := mf k3
              have hkI : (k3 : Int) < (n : Int) := by omega
              generalize (GM P cols n i k3).getD k3 [] = GK at *
              generalize DD.getD k3 [] = part at *
              clear hrow HNEXT mf hyg hyC hyX prow hlen hpL
              go_wp2_with fail
              go_region_law (first | (refine step_col_lies ?_ (.tmp 50) (.tmp 55) (by rfl) w.heap.size _ i GK (by rfl) (by first | exact HROW.out.next ((Below.refl wz.heap.size wz).alloc (Nat.le_refl _) _) | exact HROW.out.next ((Below.refl wz.heap.size wz).alloc (Nat.le_refl _) _).drew) _ _ part (World.ownsRow.alloc HPR.out _) (by rfl) (heap_alloc_new _ _) hby ?_ ?_; rfl; (simp; omega); intro b c8 w8 q1 q2 q3 q4; have hCk : w8.heap[C]? = wz.heap[C]? := (q2.block C (by simp; omega) (fun e => HYC.out e.symm)).trans (heap_alloc_old _ _ hCl); have m8 := (cell_heap (o := k3) hCk).trans HM0C.out; have f8 := (frozen_heap (o := k3) hCk).trans (HMF.out k3); have l8 : C < w8.heap.size := Nat.lt_of_lt_of_le hCl (Nat.le_trans (by simp) q2.size)))
              all_goals (
                have hb2 : Below w.heap.size w w8 := by first | exact (hbz.alloc hsz _).grown q2 (Nat.le_trans hsz (by simp)) (fun q hq => HROW.out.lt q hq |>.1) | exact (hbz.alloc hsz _).drew.grown q2 (Nat.le_trans hsz (by simp)) (fun q hq => HROW.out.lt q hq |>.1)
                have hF := HNX.out _ w8 b c8 part (by first | exact (Below.refl wz.heap.size wz).alloc (Nat.le_refl _) _ | exact ((Below.refl wz.heap.size wz).alloc (Nat.le_refl _) _).drew) q1 q2 q3 (fun x hx => by have := Option.some.inj hx; have h9 : x = g := this.symm; rw [h9]; exact Nat.lt_of_lt_of_le hgl (by simp))
                rw [← HSTP.out] at hF
                have HFF := Lib.hid hF
                have hK := CA3.keep (u := .slice (some ⟨b, 0, none⟩) (i + 1) c8) HG3.out hkn HM0C.out (by first | exact (Below.refl wz.heap.size wz).alloc (Nat.le_refl _) _ | exact ((Below.refl wz.heap.size wz).alloc (Nat.le_refl _) _).drew) q2 (by first | exact HP3.out.next ((Below.refl wz.heap.size wz).alloc (Nat.le_refl _) _) | exact HP3.out.next ((Below.refl wz.heap.size wz).alloc (Nat.le_refl _) _).drew) (fun q hq e => HYG.out (by have := Option.some.inj hq; have h9 : q = g := this.symm; rw [e, h9]))
                have HKK := Lib.hid hK
                have HBB := Lib.hid (hb2.setCell (p := ⟨C, k3, none⟩) hBC (.slice (some ⟨b, 0, none⟩) (i + 1) c8))
                clear hF hK hb2 q1 q2 q3 q4 hCk m8 f8 l8 m0 p0 f0
                generalize w8.setCell ⟨C, k3, none⟩ (.slice (some ⟨b, 0, none⟩) (i + 1) c8) = W8 at *
                go_wp2_with fail
                exact ⟨⟨k3 + 1, by omega, by go_num, HBB.out, HFF, HKK⟩, by simp [intOf]; omega⟩)
            · obtain rfl : k3 = n := by omega
              have hkI : ¬ (k3 : Int) < (k3 : Int) := by omega
              have HGF := Lib.hid (show CA3 wz w.heap.size (.slice A k3 cp) k3 (GM P cols k3 (i + 1) 0) none by rw [← GM_all]; exact HG3.out.free)
              have HCS := Lib.hid (show CSt P cols (i + 1) k3 (GM P cols k3 (i + 1) 0) from Or.inr ⟨by omega, HM0.out.symm, rfl, fun j hj => by
                by_cases h : j = i
                · subst h; rw [← HDD.out]; exact HN.out.symm
                · exact HPREV.out j (by omega)⟩)
              clear HG3 HP3
              go_wp2_with fail
              exact ⟨⟨i + 1, k3, A, cp, _, by omega, by go_num, rfl, hbz, HGF, HCS, fun h => absurd h (by omega)⟩, by simp [intOf]; omega⟩
        · have hR : R = none := HBAD.out i hlt (by rw [← HDD.out, ← HN.out, ← hm0]; exact hnm)
          subst hR
          have hne : ((n : Int) != (m : Int)) = true := by rw [bne_iff_ne]; omega
          clear HS HG HPA hprev hm0 hAi hi0 hnm
          go_wp2_with fail
          go_ret2
          exact ⟨hB5, rfl⟩
    · obtain rfl : i = cols.length := by omega
      obtain ⟨hR, hm⟩ := HEND.out m G HS.out
      subst hR
      have HGG := Lib.hid HG.out
      have HM := Lib.hid hm
      clear hm HS HEND HBAD
      go_wp2_with fail
      go_ret2
      exact ⟨hbw, A, cp, m, rfl, HM.out.symm, HGG.out⟩
end Go.Proofs.Ytjfkoledbegpfaa
