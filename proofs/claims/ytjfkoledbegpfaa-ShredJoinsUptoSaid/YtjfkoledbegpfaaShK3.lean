/- The walks of hypostyleref.emptyCols, joinCols. -/
import Derived.Laws.OwnMore
import Derived.Test.YtjfkoledbegpfaaShK2
import Derived.Test.YtjfkoledbegpfaaShSal
namespace Go.Proofs.Ytjfkoledbegpfaa
open Go.RowKit
open Sh (Lv zipA)
set_option linter.unusedVariables false

/-- rows of unlike kinds share no block -/
theorem kinds {w : World} {B B' : Nat} {e e' : TypeId} {sz sz' : Nat} {v v' : Value} {n n' : Nat} {xs xs' : List Value} (h : w.ownsRow B e sz v n xs) (h' : w.ownsRow B' e' sz' v' n' xs') (hne : e ≠ e') {g : Nat} (hg : v.ownBlock = some g) : v'.ownBlock ≠ some g := by
  intro hg'
  rcases h.2 with ⟨rfl, -⟩ | ⟨g1, c1, cur1, rfl, -, k1, -⟩
  · cases hg
  · rcases h'.2 with ⟨rfl, -⟩ | ⟨g2, c2, cur2, rfl, -, k2, -⟩
    · cases hg'
    · have e1 : g1 = g := Option.some.inj hg
      have e2 : g2 = g := Option.some.inj hg'
      rw [e1] at k1
      rw [e2, k1] at k2
      injection k2 with k3
      injection k3 with k4 k5
      exact hne k5
/-- columns in a row of one's own, each a row of one's own too -/
def COut (w : World) (B : Nat) (v : Value) (n : Nat) (D : List (List Lv)) : Prop :=
  D.length = n ∧ ∃ vs, w.ownsRow B 40 1 v n vs ∧ ∀ i, i < n → w.ownsRow B 43 3 (vs.getD i undef) (D.getD i []).length (lvals (D.getD i []))
theorem COut.next {w w' : World} {B n : Nat} {v : Value} {D : List (List Lv)} (h : COut w B v n D) (hb : Below w.heap.size w w') : COut w' B v n D := by
  obtain ⟨h1, vs, h2, h3⟩ := h
  exact ⟨h1, vs, row_below h2 hb, fun i hi => row_below (h3 i hi) hb⟩
theorem COut.down {w : World} {B G n : Nat} {v : Value} {D : List (List Lv)} (h : COut w B v n D) (hG : G ≤ B) : COut w G v n D := by
  obtain ⟨h1, vs, h2, h3⟩ := h
  exact ⟨h1, vs, own_down h2 hG, fun i hi => own_down (h3 i hi) hG⟩
theorem COut.nil (w : World) (B : Nat) : COut w B (.slice none 0 0) 0 [] := ⟨rfl, [], World.ownsRow_nil _ _ _ _, fun i hi => absurd hi (Nat.not_lt_zero _)⟩
theorem COut.form {w : World} {B n : Nat} {v : Value} {D : List (List Lv)} (h : COut w B v n D) : ∃ A cp, v = .slice A n cp ∧ (A = none → cp = 0) := by
  obtain ⟨h1, vs, h2, h3⟩ := h
  rcases h2.2 with ⟨rfl, h0⟩ | ⟨g, cap, cur, rfl, -⟩
  · exact ⟨none, 0, by rw [h0], fun _ => rfl⟩
  · exact ⟨_, _, rfl, fun e => by cases e⟩
theorem COut.at {w : World} {B n cp : Nat} {A : Option Addr} {D : List (List Lv)} (h : COut w B (.slice A n cp) n D) {i : Nat} (hi : i < n) : ∃ g aa c, A = some ⟨g, 0, none⟩ ∧ g < w.heap.size ∧ w.cell? ⟨g, i, none⟩ = some (.slice aa (D.getD i []).length c) ∧ Lvs w w.heap.size aa (D.getD i []) ∧ (D.getD i []).length ≤ c ∧ c ≤ maxLen ∧ (aa = none → c = 0) := by
  obtain ⟨h1, vs, h2, h3⟩ := h
  have hvl : vs.length = n := by rw [h2.1, Nat.mul_one]
  rcases h2.2 with ⟨e, h0⟩ | ⟨g, cap, cur, e, -⟩
  · omega
  · injection e with e1 e2 e3
    subst e1
    obtain ⟨aa, c, f1, f2, f3, f4⟩ := lvs_row (h3 i hi)
    refine ⟨g, aa, c, rfl, (h2.lt g rfl).2, ?_, f2, f3, f4, ?_⟩
    · rw [h2.cellAt i (by omega), ← f1]; simp [List.getD, List.getElem?_eq_getElem (show i < vs.length by omega)]
    · have := h3 i hi
      rw [f1] at this
      exact row_nil this
theorem COut.rows {w : World} {B n cp : Nat} {A : Option Addr} {D : List (List Lv)} (h : COut w B (.slice A n cp) n D) (hok : ∀ i, ∀ x ∈ D.getD i [], lvOk x) : LRows w w.heap.size A D := by
  obtain ⟨h1, vs, h2, h3⟩ := h
  have hvl : vs.length = n := by rw [h2.1, Nat.mul_one]
  refine ⟨vs, by rw [hvl, h1], fun i hi => ?_, fun hne => ?_⟩
  · obtain ⟨aa, c, f1, f2, f3, f4⟩ := lvs_row (h3 i (by omega))
    exact ⟨aa, c, f1, f2, f3, f4, hok i⟩
  · rcases h2.2 with ⟨e, h0⟩ | ⟨g, cap, cur, e, -⟩
    · exact absurd (List.eq_nil_of_length_eq_zero (by omega)) hne
    · injection e with e1 e2 e3
      subst e1
      exact ⟨g, 0, rfl, (h2.lt g rfl).2, fun i hi => by rw [Nat.zero_add, h2.cellAt i (by omega)]⟩
/-- one column more -/
theorem COut.snoc {w w' : World} {B n : Nat} {v v' y : Value} {D : List (List Lv)} {l : List Lv} {vs : List Value} (hn : D.length = n) (h2 : w.ownsRow B 40 1 v n vs) (h3 : ∀ i, i < n → w.ownsRow B 43 3 (vs.getD i undef) (D.getD i []).length (lvals (D.getD i [])))
    (hy : w.ownsRow B 43 3 y l.length (lvals l)) (hr : w'.ownsRow B 40 1 v' (n + 1) (vs ++ [y])) (hg : w.grownBy w' v.ownBlock) : COut w' B v' (n + 1) (D ++ [l]) := by
  have hvl : vs.length = n := by rw [h2.1, Nat.mul_one]
  have keep : ∀ {u : Value} {m : Nat} {xs : List Value}, w.ownsRow B 43 3 u m xs → w'.ownsRow B 43 3 u m xs := fun {u m xs} h => own_block h (fun i e => hg.block i (h.lt i e).2 (fun e2 => kinds h h2 (by decide) e e2.symm))
  refine ⟨by rw [List.length_append, hn]; rfl, _, hr, fun i hi => ?_⟩
  by_cases hlt : i < n
  · have e1 : (vs ++ [y]).getD i undef = vs.getD i undef := by unfold List.getD; rw [List.getElem?_append_left (by omega)]
    have e2 : (D ++ [l]).getD i [] = D.getD i [] := by unfold List.getD; rw [List.getElem?_append_left (by omega)]
    rw [e1, e2]; exact keep (h3 i hlt)
  · have hi' : i = n := by omega
    subst hi'
    have e1 : (vs ++ [y]).getD i undef = y := by unfold List.getD; rw [List.getElem?_append_right (by omega), hvl, Nat.sub_self]; rfl
    have e2 : (D ++ [l]).getD i [] = l := by unfold List.getD; rw [List.getElem?_append_right (by omega), hn, Nat.sub_self]; rfl
    rw [e1, e2]; exact keep hy
theorem wp_append_col {w : World} {o : Oper} {a : Act} {K : Act → World → Prop} {Q : Exit → Act → World → Prop} (s x : Operand)
    (ho : o.op = .call { callee := .builtin .append, args := #[s, x], argTypes := #[27, 27] }) (base : Nat)
    (v : Value) (n : Nat) (D : List (List Lv)) (hs : a.eval s = v) (hown : COut w base v n D)
    (g : Nat) (y : Value) (l : List Lv) (hy : w.ownsRow base 43 3 y l.length (lvals l)) (hx : a.eval x = .slice (some ⟨g, 0, none⟩) 1 1) (hblk : w.heap[g]? = some (.cells #[y] 40 (0, 0)))
    (hbytes : (n + 1) * 24 ≤ 140737488355328) (hbase : base ≤ w.heap.size)
    (h : ∀ A' cp w', COut w' base (.slice A' (n + 1) cp) (n + 1) (D ++ [l]) → Below base w w' → K (a.put o.dst (.slice A' (n + 1) cp)) w') : o.wp Try.prog a w K Q := by
  obtain ⟨hn, vs, h2, h3⟩ := hown
  obtain ⟨i, hi, hz0, hz1, hz2⟩ := info_parts info_lvs
  refine wp_append_lies w s x 27 ho base 40 i (.slice none 0 0) 1 24 Try.underlying27 hi hz0 hz1 hz2 rfl (by decide) v n vs hs h2 ⟨g, 0, none⟩ 1 1 [y] hx rfl (World.news_of_block hblk) ?_ (by decide) (by unfold maxLen; omega) hbytes hbase _ rfl ?_
  · intro u hu
    rw [List.mem_singleton.1 hu]
    rcases hy.2 with ⟨rfl, -⟩ | ⟨_, _, _, rfl, -⟩ <;> rfl
  · intro g' cap w' q1 q2 q3 q4
    exact h _ cap w' (COut.snoc hn h2 h3 hy q1 q2) ((Below.refl base w).grown q2 hbase (fun k hk => (h2.lt k hk).1))
theorem step_append_col {w : World} {ops : Array Oper} {o : Oper} {a : Act} {K : Act → World → Prop} {Q : Exit → Act → World → Prop} {E : Prop} (hw : Region.wanted o (yielded ops a.tmps) = true) (s x : Operand)
    (ho : o.op = .call { callee := .builtin .append, args := #[s, x], argTypes := #[27, 27] }) (base : Nat)
    (v : Value) (n : Nat) (D : List (List Lv)) (hs : a.eval s = v) (hown : COut w base v n D)
    (g : Nat) (y : Value) (l : List Lv) (hy : w.ownsRow base 43 3 y l.length (lvals l)) (hx : a.eval x = .slice (some ⟨g, 0, none⟩) 1 1) (hblk : w.heap[g]? = some (.cells #[y] 40 (0, 0)))
    (hbytes : (n + 1) * 24 ≤ 140737488355328) (hbase : base ≤ w.heap.size)
    (h : ∀ A' cp w', COut w' base (.slice A' (n + 1) cp) (n + 1) (D ++ [l]) → Below base w w' → K (a.put o.dst (.slice A' (n + 1) cp)) w') :
    if Region.wanted o (yielded ops a.tmps) = true then Oper.wp Try.prog o a w K Q else E := by
  rw [if_pos hw]
  exact wp_append_col s x ho base v n D hs hown g y l hy hx hblk hbytes hbase h
theorem wpList_append_col {w : World} {ops : Array Oper} {rest : List Oper} {o : Oper} {a : Act} {Q : Exit → Act → World → Prop} (hgd : o.guard = none) (s x : Operand)
    (ho : o.op = .call { callee := .builtin .append, args := #[s, x], argTypes := #[27, 27] }) (base : Nat)
    (v : Value) (n : Nat) (D : List (List Lv)) (hs : a.eval s = v) (hown : COut w base v n D)
    (g : Nat) (y : Value) (l : List Lv) (hy : w.ownsRow base 43 3 y l.length (lvals l)) (hx : a.eval x = .slice (some ⟨g, 0, none⟩) 1 1) (hblk : w.heap[g]? = some (.cells #[y] 40 (0, 0)))
    (hbytes : (n + 1) * 24 ≤ 140737488355328) (hbase : base ≤ w.heap.size)
    (h : ∀ A' cp w', COut w' base (.slice A' (n + 1) cp) (n + 1) (D ++ [l]) → Below base w w' → wpList Try.prog ops Q rest (a.put o.dst (.slice A' (n + 1) cp)) w') : wpList Try.prog ops Q (o :: rest) a w := by
  obtain ⟨hn, vs, h2, h3⟩ := hown
  obtain ⟨i, hi, hz0, hz1, hz2⟩ := info_parts info_lvs
  refine wpList_append_lies w hgd s x 27 ho base 40 i (.slice none 0 0) 1 24 Try.underlying27 hi hz0 hz1 hz2 rfl (by decide) v n vs hs h2 ⟨g, 0, none⟩ 1 1 [y] hx rfl (World.news_of_block hblk) ?_ (by decide) (by unfold maxLen; omega) hbytes hbase _ rfl ?_
  · intro u hu
    rw [List.mem_singleton.1 hu]
    rcases hy.2 with ⟨rfl, -⟩ | ⟨_, _, _, rfl, -⟩ <;> rfl
  · intro g' cap w' q1 q2 q3 q4
    exact h _ cap w' (COut.snoc hn h2 h3 hy q1 q2) ((Below.refl base w).grown q2 hbase (fun k hk => (h2.lt k hk).1))

def CPost (w : World) (n : Nat) (D : List (List Lv)) (e : Ending) (w' : World) : Prop := ∃ A cp, e = .returned (.slice A n cp) ∧ COut w' w.heap.size (.slice A n cp) n D ∧ Below w.heap.size w w'
theorem rep_snoc {α : Type} (j : Nat) (x : α) : List.replicate j x ++ [x] = List.replicate (j + 1) x := (List.replicate_succ' ..).symm

set_option maxHeartbeats 1000000 in
set_option maxRecDepth 100000 in
theorem empty_any (w : World) (n : Nat) (hn : n ≤ 1000) : Calls Try.prog 27 #[.int .i64 (n : Nat)] w (CPost w n (List.replicate n [])) := by
  go_enter Try.func27, Try.ntmps27
  go_wp2_with fail
  go_loopw [3, 4] (fun v i wr => ∃ (j : Nat) (A : Option Addr) (cp : Nat), j ≤ n ∧ i = .int .i64 j ∧ v = .slice A j cp ∧ Below w.heap.size w wr ∧ COut wr w.heap.size (.slice A j cp) j (List.replicate j [])) (fun _ i _ => n - (intOf i).toNat)
  case atStart => exact ⟨0, none, 0, Nat.zero_le _, rfl, rfl, Below.refl _ _, COut.nil _ _⟩
  case round =>
    obtain ⟨j, A, cp, hj, rfl, rfl, hbw, hco⟩ := hrel
    rename World => wr
    have HCO := Lib.hid hco
    clear hco
    by_cases hlt : j < n
    · have hjI : (j : Int) < (n : Int) := by omega
      have hby : (j + 1) * 24 ≤ 140737488355328 := by omega
      have HOA := Lib.hid (fun o => HCO.out.next ((Below.refl wr.heap.size wr).alloc (Nat.le_refl _) o))
      have HBA := Lib.hid (fun o => hbw.alloc hbw.size o)
      go_wp2_with (at_builtin; refine wpList_append_col (by rfl) (.tmp 10) (.tmp 11) (by rfl) w.heap.size _ j (List.replicate j []) (by rfl) (HOA.out _) wr.heap.size (.slice none 0 0) [] (World.ownsRow_nil _ _ _ _) (by rfl) (heap_alloc_new _ _) hby (HBA.out _).size ?_; intro A9 cp9 w9 hown9 hb9)
      have hB9 := (HBA.out (.cells #[.slice none 0 0] 40)).trans hb9
      exact ⟨⟨j + 1, A9, cp9, by omega, by go_num, rfl, hB9, by rw [← rep_snoc]; exact hown9⟩, by simp [intOf]; omega⟩
    · obtain rfl : j = n := by omega
      have hjI : ¬ (j : Int) < (j : Int) := by omega
      go_wp2_with fail
      go_ret
      exact ⟨A, cp, rfl, HCO.out, hbw⟩
end Go.Proofs.Ytjfkoledbegpfaa
