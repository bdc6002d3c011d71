/- Plain laws of tables: columns that are picked. -/
import Derived.Test.YtnjnalehfhfefaaTbLawS
namespace Go.Proofs.Ytnjnalehfhfefaa.Tb
set_option linter.unusedVariables false

theorem nodup_len : ∀ (k : Nat) (l : List Nat), l.Nodup → (∀ x ∈ l, x < k) → l.length ≤ k
  | 0, l, _, h => by
    match l, h with
    | [], _ => simp
    | x :: l, h => exact absurd (h x (by simp)) (by omega)
  | k + 1, l, hn, h => by
    by_cases hk : k ∈ l
    · have h1 := nodup_len k (l.erase k) (hn.erase k) (fun x hx => by
        have h2 := h x (List.mem_of_mem_erase hx)
        have h3 : x ≠ k := fun e => by subst e; exact (hn.not_mem_erase) hx
        omega)
      rw [List.length_erase_of_mem hk] at h1
      omega
    · have := nodup_len k l hn (fun x hx => by
        have h2 := h x hx
        have h3 : x ≠ k := fun e => by subst e; exact hk hx
        omega)
      omega
theorem has_app {l : List Col} {c : Col} {n : List UInt8} : has (l ++ [c]) n ↔ has l n ∨ c.name = n := by
  rw [has_iff, has_iff]
  constructor
  · rintro ⟨i, hi, e⟩
    rw [List.length_append, List.length_singleton] at hi
    by_cases h : i < l.length
    · rw [getD_app_l _ _ _ h] at e; exact Or.inl ⟨i, h, e⟩
    · obtain rfl : i = l.length := by omega
      rw [getD_app_len] at e; exact Or.inr e
  · rintro (⟨i, hi, e⟩ | e)
    · exact ⟨i, by rw [List.length_append]; omega, by rw [getD_app_l _ _ _ hi]; exact e⟩
    · exact ⟨l.length, by simp, by rw [getD_app_len]; exact e⟩
theorem projE_zero (t : T) : ∀ (ns : List (List UInt8)) (d : List Col), projE t d ns = 0 → (∀ n ∈ ns, has t.cols n ∧ ¬ has d n) ∧ ns.Nodup
  | [], d, _ => ⟨by simp, by simp⟩
  | n :: r, d, h => by
    unfold projE at h
    by_cases h1 : ¬ has t.cols n
    · rw [if_pos h1] at h; exact absurd h (by decide)
    rw [if_neg h1] at h
    by_cases h2 : has d n
    · rw [if_pos h2] at h; exact absurd h (by decide)
    rw [if_neg h2] at h
    have h1 := Classical.not_not.1 h1
    obtain ⟨a, b⟩ := projE_zero t r _ h
    have hd : ∀ m ∈ r, ¬ has d m ∧ n ≠ m := fun m hm => by
      have := (a m hm).2
      rw [has_app, pos_name h1] at this
      exact ⟨fun e => this (Or.inl e), fun e => this (Or.inr e)⟩
    refine ⟨fun m hm => ?_, ?_⟩
    · rcases List.mem_cons.1 hm with rfl | hm
      · exact ⟨h1, h2⟩
      · exact ⟨(a m hm).1, (hd m hm).1⟩
    · exact List.nodup_cons.2 ⟨fun hm => (hd n hm).2 rfl, b⟩
theorem projE_mk (t : T) : ∀ (ns : List (List UInt8)) (d : List Col), (∀ n ∈ ns, has t.cols n ∧ ¬ has d n) → ns.Nodup → projE t d ns = 0
  | [], d, _, _ => rfl
  | n :: r, d, h, hn => by
    obtain ⟨h1, h2⟩ := h n (by simp)
    unfold projE
    rw [if_neg (by rw [Classical.not_not]; exact h1), if_neg h2]
    obtain ⟨n1, n2⟩ := List.nodup_cons.1 hn
    refine projE_mk t r _ (fun m hm => ⟨(h m (by simp [hm])).1, ?_⟩) n2
    rw [has_app, pos_name h1]
    rintro (e | e)
    · exact (h m (by simp [hm])).2 e
    · subst e; exact n1 hm
theorem projE_cols {t u : T} (h : t.cols = u.cols) : ∀ (ns : List (List UInt8)) (d : List Col), projE t d ns = projE u d ns
  | [], d => rfl
  | n :: r, d => by
    unfold projE
    rw [h, projE_cols h r]
theorem proj_col (t : T) (ns : List (List UInt8)) {i : Nat} (h : i < ns.length) : (proj t ns).cols.getD i nulC = t.cols.getD (pos t.cols (ns.getD i [])) nulC := by
  show (ns.map fun n => t.cols.getD (pos t.cols n) nulC).getD i nulC = _
  simp [List.getD, List.getElem?_eq_getElem h]
theorem proj_dat (t : T) (ns : List (List UInt8)) {i : Nat} (h : i < ns.length) : (proj t ns).data.getD i [] = t.data.getD (pos t.cols (ns.getD i [])) [] := by
  show (ns.map fun n => t.data.getD (pos t.cols n) []).getD i [] = _
  simp [List.getD, List.getElem?_eq_getElem h]
theorem proj_len (t : T) (ns : List (List UInt8)) : (proj t ns).cols.length = ns.length ∧ (proj t ns).data.length = ns.length := by simp [proj]
theorem nodup_getD {ns : List (List UInt8)} (h : ns.Nodup) {i j : Nat} (hi : i < ns.length) (hj : j < ns.length) (e : ns.getD i [] = ns.getD j []) : i = j := by
  simp only [List.getD, List.getElem?_eq_getElem hi, List.getElem?_eq_getElem hj, Option.getD_some] at e
  exact (List.getElem_inj h).1 e
theorem Ok.proj {t : T} {ns : List (List UInt8)} (h : Ok t) (hz : projE t [] ns = 0) : Ok (Tb.proj t ns) := by
  obtain ⟨h1, h2⟩ := projE_zero t ns [] hz
  obtain ⟨cl, dl⟩ := proj_len t ns
  have ha : ∀ i, i < ns.length → pos t.cols (ns.getD i []) < t.cols.length := fun i hi => (h1 _ (getD_mem ns [] hi)).1
  have hnm : ∀ i, i < ns.length → ((Tb.proj t ns).cols.getD i nulC).name = ns.getD i [] := fun i hi => by
    rw [proj_col t ns hi]; exact pos_name (ha i hi)
  have hsix : ns.length ≤ 6 := by
    have := nodup_len t.cols.length (ns.map (pos t.cols)) (by
      rw [List.nodup_iff_pairwise_ne, List.pairwise_map]
      refine List.Pairwise.imp_of_mem ?_ (List.nodup_iff_pairwise_ne.1 h2)
      intro a b ha hb hne e
      have ea := pos_name (h1 a ha).1
      have eb := pos_name (h1 b hb).1
      rw [e] at ea
      exact hne (ea.symm.trans eb)) (by
      intro x hx
      obtain ⟨n, hn, rfl⟩ := List.mem_map.1 hx
      exact (h1 n hn).1)
    rw [List.length_map] at this
    have := h.six
    omega
  refine ⟨by rw [cl]; exact hsix, by rw [cl, dl], ?_, ?_, ?_, ?_, ?_, ?_⟩ <;> rw [cl]
  · intro i hi
    rw [proj_col t ns hi]; exact h.name _ (ha i hi)
  · intro i hi hh
    obtain ⟨j, hj, e⟩ := has_iff.1 hh
    rw [List.length_take, cl] at hj
    rw [getD_take _ _ (by omega), hnm i hi, hnm j (by omega)] at e
    have := nodup_getD h2 (by omega) hi e
    omega
  · intro i hi
    rw [proj_col t ns hi]; exact h.kind _ (ha i hi)
  · intro i hi
    rw [proj_dat t ns hi]; exact h.many _ (ha i hi)
  · intro i hi j hj
    rw [proj_dat t ns hi] at hj ⊢
    rw [proj_col t ns hi]
    exact h.cell _ (ha i hi) j hj
  · intro i hi
    have hr : Tb.rows (Tb.proj t ns) = Tb.rows t := by
      show ((Tb.proj t ns).data.getD 0 []).length = _
      rw [proj_dat t ns (by omega)]
      exact h.rows _ (ha 0 (by omega))
    rw [hr, proj_dat t ns hi]
    exact h.rows _ (ha i hi)
theorem rows_proj {t : T} {ns : List (List UInt8)} (h : Ok t) (hz : projE t [] ns = 0) (h0 : 0 < ns.length) : Tb.rows (Tb.proj t ns) = Tb.rows t := by
  show ((Tb.proj t ns).data.getD 0 []).length = _
  rw [proj_dat t ns h0]
  exact h.rows _ ((projE_zero t ns [] hz).1 _ (getD_mem ns [] h0)).1
theorem sli_proj {t : T} {ns : List (List UInt8)} (h : Ok t) (hz : projE t [] ns = 0) (f m : Int) : Tb.sli (Tb.proj t ns) f m = Tb.proj (Tb.sli t f m) ns := by
  match ns, hz with
  | [], _ => rfl
  | n :: r, hz =>
    have hr := rows_proj h hz (by simp)
    have e1 : sliF (Tb.proj t (n :: r)) f = sliF t f := by unfold sliF; rw [hr]
    have e2 : sliN (Tb.proj t (n :: r)) f m = sliN t f m := by unfold sliN; rw [hr, e1]
    unfold Tb.sli
    rw [e1, e2]
    show T.mk ((n :: r).map fun n => t.cols.getD (pos t.cols n) nulC) (((n :: r).map fun n => t.data.getD (pos t.cols n) []).map fun l => (l.drop (sliF t f)).take (sliN t f m)) = T.mk ((n :: r).map fun n => t.cols.getD (pos t.cols n) nulC) ((n :: r).map fun n => (t.data.map fun l => (l.drop (sliF t f)).take (sliN t f m)).getD (pos t.cols n) [])
    rw [List.map_map]
    refine congrArg (T.mk _) (map_congr' fun x _ => ?_)
    rw [getD_map _ _ _ [] [] (by simp)]
    rfl
theorem has_proj {t : T} {ns : List (List UInt8)} (h1 : ∀ n ∈ ns, has t.cols n) {n : List UInt8} (h : has (Tb.proj t ns).cols n) :
    has t.cols n ∧ (Tb.proj t ns).cols.getD (pos (Tb.proj t ns).cols n) nulC = t.cols.getD (pos t.cols n) nulC ∧ (Tb.proj t ns).data.getD (pos (Tb.proj t ns).cols n) [] = t.data.getD (pos t.cols n) [] := by
  have hl : pos (Tb.proj t ns).cols n < ns.length := by rw [← (proj_len t ns).1]; exact h
  have e := pos_name h
  rw [proj_col t ns hl] at e
  have hm := h1 _ (getD_mem ns [] hl)
  rw [pos_name hm] at e
  rw [proj_col t ns hl, proj_dat t ns hl, e]
  rw [e] at hm
  exact ⟨hm, rfl, rfl⟩
theorem proj_proj {t : T} {ns fw : List (List UInt8)} (h1 : ∀ n ∈ ns, has t.cols n) (hz : projE (Tb.proj t ns) [] fw = 0) : projE t [] fw = 0 ∧ Tb.proj (Tb.proj t ns) fw = Tb.proj t fw := by
  obtain ⟨a, b⟩ := projE_zero _ fw [] hz
  constructor
  · exact projE_mk t fw [] (fun n hn => ⟨(has_proj h1 (a n hn).1).1, (a n hn).2⟩) b
  · have e1 : fw.map (fun n => (Tb.proj t ns).cols.getD (pos (Tb.proj t ns).cols n) nulC) = fw.map (fun n => t.cols.getD (pos t.cols n) nulC) := map_congr' fun n hn => (has_proj h1 (a n hn).1).2.1
    have e2 : fw.map (fun n => (Tb.proj t ns).data.getD (pos (Tb.proj t ns).cols n) []) = fw.map (fun n => t.data.getD (pos t.cols n) []) := map_congr' fun n hn => (has_proj h1 (a n hn).1).2.2
    show T.mk _ _ = T.mk _ _
    rw [e1, e2]
/-- all that TableProjects asks -/
theorem proj_law (t : T) (ns fw : List (List UInt8)) (f m : Int) : ((chg t (projE t [] ns) (proj t ns)).2 ≠ 0 ∧ (chg t (projE t [] ns) (proj t ns)).1 = nul) ∨ ∃ u, chg t (projE t [] ns) (proj t ns) = (u, 0) ∧
    (¬ f < 0 → ¬ m < 0 → ∃ b s, chg u (sliE f m) (sli u f m) = (b, 0) ∧ chg t (sliE f m) (sli t f m) = (s, 0) ∧ chg s (projE s [] ns) (proj s ns) = (b, 0) ∧ Ok b) ∧
    (((chg u (projE u [] fw) (proj u fw)).2 ≠ 0 ∧ (chg u (projE u [] fw) (proj u fw)).1 = nul) ∨ ∃ y, chg u (projE u [] fw) (proj u fw) = (y, 0) ∧ chg t (projE t [] fw) (proj t fw) = (y, 0) ∧ Ok y) := by
  rcases chg_or t (projE t [] ns) (proj t ns) with hx | ⟨h1, h2, h3⟩
  · exact Or.inl hx
  · have h := check_ok h1
    have hu := h.proj h2
    refine Or.inr ⟨_, h3, ?_, ?_⟩
    · intro hf hm
      refine ⟨_, _, chg_ok (ok_check hu) (sliE_zero hf hm), chg_ok h1 (sliE_zero hf hm), ?_, hu.sli f m⟩
      rw [chg_ok (ok_check (h.sli f m)) (by rw [← h2]; exact projE_cols (t := Tb.sli t f m) (u := t) rfl _ _), sli_proj h h2]
    · rcases chg_or (Tb.proj t ns) (projE (Tb.proj t ns) [] fw) (Tb.proj (Tb.proj t ns) fw) with hx | ⟨k1, k2, k3⟩
      · exact Or.inl hx
      · obtain ⟨p1, p2⟩ := proj_proj (fun n hn => ((projE_zero t ns [] h2).1 n hn).1) k2
        refine Or.inr ⟨_, k3, ?_, hu.proj k2⟩
        rw [chg_ok h1 p1, p2]
end Go.Proofs.Ytnjnalehfhfefaa.Tb
