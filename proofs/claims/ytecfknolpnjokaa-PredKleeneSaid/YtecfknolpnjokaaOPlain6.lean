/- Conditions: De Morgan. -/
import Derived.Test.YtecfknolpnjokaaOPlain4
namespace Go.Proofs.Ytecfknolpnjokaa.O
set_option linter.unusedVariables false

def cop (op : Int) : Cd := ⟨op, 0, C.null⟩
theorem cop_alone (ks : List Int) (op : Int) (h1 : 5 ≤ op) (h2 : op ≤ 7) : alone ks (cop op) = 0 := by
  unfold alone cop
  rw [if_neg (by show ¬ (op < 1 ∨ 7 < op); omega), if_pos h1, if_neg (by show ¬ ((0 : Int) ≠ 0 ∨ C.null ≠ C.null); simp)]
theorem ok_not {ks : List Int} {t : T} (h : ok ks t) : ok ks (.one (cop 7) t) := ⟨rfl, cop_alone ks 7 (by omega) (by omega), h⟩
theorem ok_and {ks : List Int} {t u : T} (h : ok ks t) (h' : ok ks u) : ok ks (.two (cop 5) t u) := ⟨rfl, cop_alone ks 5 (by omega) (by omega), h, h'⟩
theorem ok_or {ks : List Int} {t u : T} (h : ok ks t) (h' : ok ks u) : ok ks (.two (cop 6) t u) := ⟨rfl, cop_alone ks 6 (by omega) (by omega), h, h'⟩
theorem ask_same {ks : List Int} {t u : T} (ht : ok ks t) (hu : ok ks u) (lt : (flat t).length ≤ 16) (lu : (flat u).length ≤ 16) (row : List C.Cl) (h : ev (askL row) jo t = ev (askL row) jo u) : askR (flat t) ks row = askR (flat u) ks row := by
  unfold askR
  rw [check_flat ht lt, check_flat hu lu, run_flat _ _ ks t ht, run_flat _ _ ks u hu, h]
theorem prune_same {ks : List Int} {t u : T} (ht : ok ks t) (hu : ok ks u) (lt : (flat t).length ≤ 16) (lu : (flat u).length ≤ 16) (s : List S.St) (f : List Bl.F) (h : ev (askS s f) joS t = ev (askS s f) joS u) : pruneR (flat t) ks s f = pruneR (flat u) ks s f := by
  unfold pruneR
  rw [check_flat ht lt, check_flat hu lu, run_flat _ _ ks t ht, run_flat _ _ ks u hu, h]
theorem jo_morgan5 (a b : Nat) : jo 7 (jo 5 a b) (jo 5 a b) = jo 6 (jo 7 a a) (jo 7 b b) := by
  show 2 - min a b = max (2 - a) (2 - b); omega
theorem jo_morgan6 (a b : Nat) : jo 7 (jo 6 a b) (jo 6 a b) = jo 5 (jo 7 a a) (jo 7 b b) := by
  show 2 - max a b = min (2 - a) (2 - b); omega
theorem jo_twice (a : Nat) (h : a ≤ 2) : jo 7 (jo 7 a a) (jo 7 a a) = a := by
  show 2 - (2 - a) = a; omega
theorem joS_morgan5 : ∀ a b : Fin 8, joS 7 (joS 5 a.val b.val) (joS 5 a.val b.val) = joS 6 (joS 7 a.val a.val) (joS 7 b.val b.val) := by decide +kernel
theorem joS_morgan6 : ∀ a b : Fin 8, joS 7 (joS 6 a.val b.val) (joS 6 a.val b.val) = joS 5 (joS 7 a.val a.val) (joS 7 b.val b.val) := by decide +kernel
theorem joS_twice : ∀ a : Fin 8, joS 7 (joS 7 a.val a.val) (joS 7 a.val a.val) = a.val := by decide +kernel

def form (p q : List Cd) (i : Nat) : List Cd :=
  if i = 0 then p ++ q ++ [cop 5, cop 7] else if i = 1 then p ++ [cop 7] ++ q ++ [cop 7] ++ [cop 6] else if i = 2 then p ++ q ++ [cop 6, cop 7] else if i = 3 then p ++ [cop 7] ++ q ++ [cop 7] ++ [cop 5] else if i = 4 then p ++ [cop 7, cop 7] else p
/-- the six forms: two and two are alike -/
theorem kleene {p q : List Cd} {ks : List Int} (hp : check p ks = 0) (hq : check q ks = 0) (hl : p.length + q.length ≤ 13) (row : List C.Cl) (s : List S.St) (f : List Bl.F) :
    ∀ i, i < 3 → askR (form p q (2 * i)) ks row = askR (form p q (2 * i + 1)) ks row ∧ pruneR (form p q (2 * i)) ks s f = pruneR (form p q (2 * i + 1)) ks s f := by
  obtain ⟨_, t, ht, hft⟩ := tree hp
  obtain ⟨_, u, hu, hfu⟩ := tree hq
  subst hft
  subst hfu
  have a8 := evS_lt (askS s f) (fun c => mayBe_lt _ _ _) t
  have b8 := evS_lt (askS s f) (fun c => mayBe_lt _ _ _) u
  have e0 : form (flat t) (flat u) 0 = flat (.one (cop 7) (.two (cop 5) t u)) := by simp [form, flat]
  have e1 : form (flat t) (flat u) 1 = flat (.two (cop 6) (.one (cop 7) t) (.one (cop 7) u)) := by simp [form, flat]
  have e2 : form (flat t) (flat u) 2 = flat (.one (cop 7) (.two (cop 6) t u)) := by simp [form, flat]
  have e3 : form (flat t) (flat u) 3 = flat (.two (cop 5) (.one (cop 7) t) (.one (cop 7) u)) := by simp [form, flat]
  have e4 : form (flat t) (flat u) 4 = flat (.one (cop 7) (.one (cop 7) t)) := by simp [form, flat]
  have e5 : form (flat t) (flat u) 5 = flat t := by simp [form]
  intro i hi
  have hpos := flat_pos u
  match i, hi with
  | 0, _ =>
    rw [show 2 * 0 + 1 = 1 from rfl, show 2 * 0 = 0 from rfl, e0, e1]
    have o1 := ok_not (ok_and ht hu)
    have o2 := ok_or (ok_not ht) (ok_not hu)
    have l1 : (flat (.one (cop 7) (.two (cop 5) t u))).length ≤ 16 := by simp [flat]; omega
    have l2 : (flat (.two (cop 6) (.one (cop 7) t) (.one (cop 7) u))).length ≤ 16 := by simp [flat]; omega
    exact ⟨ask_same o1 o2 l1 l2 row (jo_morgan5 _ _), prune_same o1 o2 l1 l2 s f (joS_morgan5 ⟨_, a8⟩ ⟨_, b8⟩)⟩
  | 1, _ =>
    rw [show 2 * 1 + 1 = 3 from rfl, show 2 * 1 = 2 from rfl, e2, e3]
    have o1 := ok_not (ok_or ht hu)
    have o2 := ok_and (ok_not ht) (ok_not hu)
    have l1 : (flat (.one (cop 7) (.two (cop 6) t u))).length ≤ 16 := by simp [flat]; omega
    have l2 : (flat (.two (cop 5) (.one (cop 7) t) (.one (cop 7) u))).length ≤ 16 := by simp [flat]; omega
    exact ⟨ask_same o1 o2 l1 l2 row (jo_morgan6 _ _), prune_same o1 o2 l1 l2 s f (joS_morgan6 ⟨_, a8⟩ ⟨_, b8⟩)⟩
  | 2, _ =>
    rw [show 2 * 2 + 1 = 5 from rfl, show 2 * 2 = 4 from rfl, e4, e5]
    have o1 := ok_not (ok_not ht)
    have l1 : (flat (.one (cop 7) (.one (cop 7) t))).length ≤ 16 := by simp [flat]; omega
    have l2 : (flat t).length ≤ 16 := by omega
    exact ⟨ask_same o1 ht l1 l2 row (jo_twice _ (ev_le _ (fun c => told_le _ _) t)), prune_same o1 ht l1 l2 s f (joS_twice ⟨_, a8⟩)⟩
  | n + 3, hn => omega
end Go.Proofs.Ytecfknolpnjokaa.O
