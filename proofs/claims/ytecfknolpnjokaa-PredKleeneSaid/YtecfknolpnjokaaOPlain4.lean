/- Conditions: rows, and what is known of their columns. -/
import Derived.Test.YtecfknolpnjokaaOPlain3
namespace Go.Proofs.Ytecfknolpnjokaa.O
set_option linter.unusedVariables false

def colOf (rows : List (List C.Cl)) (c : Nat) : List C.Cl := rows.map fun r => r.getD c C.null
def kn (rows : List (List C.Cl)) (n : Nat) : List S.St := (List.range n).map fun c => S.known (colOf rows c)
def fl (rows : List (List C.Cl)) (n : Nat) : List Bl.F := (List.range n).map fun c => Bl.fil Bl.none_ (colOf rows c)
theorem kn_succ (rows : List (List C.Cl)) (n : Nat) : kn rows (n + 1) = kn rows n ++ [S.known (colOf rows n)] := by simp [kn, List.range_succ]
theorem fl_succ (rows : List (List C.Cl)) (n : Nat) : fl rows (n + 1) = fl rows n ++ [Bl.fil Bl.none_ (colOf rows n)] := by simp [fl, List.range_succ]
theorem kn_length (rows : List (List C.Cl)) (n : Nat) : (kn rows n).length = n := by simp [kn]
theorem fl_length (rows : List (List C.Cl)) (n : Nat) : (fl rows n).length = n := by simp [fl]
theorem kn_get (rows : List (List C.Cl)) (n j : Nat) (h : j < n) : (kn rows n).getD j S.zero = S.known (colOf rows j) := by simp [kn, List.getD, h]
theorem fl_get (rows : List (List C.Cl)) (n j : Nat) (h : j < n) : (fl rows n).getD j Bl.none_ = Bl.fil Bl.none_ (colOf rows j) := by simp [fl, List.getD, h]
theorem col_mem (rows : List (List C.Cl)) (i c : Nat) (h : i < rows.length) : (rows.getD i []).getD c C.null ∈ colOf rows c := by
  unfold colOf
  refine List.mem_map.2 ⟨rows.getD i [], ?_, rfl⟩
  simp only [List.getD, List.getElem?_eq_getElem h, Option.getD_some]; exact List.getElem_mem h

theorem rowE_zero : ∀ (ks : List Int) (row : List C.Cl), row.length = ks.length → (∀ c, c < ks.length → C.chk (ks.getD c 0) [row.getD c C.null] = 0) → rowE ks row = 0
  | [], row, _, _ => by unfold rowE; rfl
  | k :: ks, [], h, _ => by simp at h
  | k :: ks, c :: row, h, hz => by
    rw [rowE]
    have h0 := hz 0 (by simp)
    rw [if_neg (by show ¬ C.chk k [c] ≠ 0; exact fun e => e h0)]
    exact rowE_zero ks row (by simpa using h) (fun i hi => hz (i + 1) (by simpa using hi))
theorem knownE_zero : ∀ (ks : List Int) (ss : List S.St), ss.length = ks.length → (∀ c, c < ks.length → S.ck (ks.getD c 0) (ss.getD c S.zero) = 0) → knownE ks ss = 0
  | [], ss, _, _ => by unfold knownE; rfl
  | k :: ks, [], h, _ => by simp at h
  | k :: ks, s :: ss, h, hz => by
    rw [knownE]
    have h0 := hz 0 (by simp)
    rw [if_neg (by show ¬ S.ck k s ≠ 0; exact fun e => e h0)]
    exact knownE_zero ks ss (by simpa using h) (fun i hi => hz (i + 1) (by simpa using hi))
theorem ks_pos {ks : List Int} : ∀ t : T, ok ks t → 0 < ks.length
  | .leaf c, h => by have := alone_leaf h.2 h.1; omega
  | .one c t, h => ks_pos t h.2.2
  | .two c t u, h => ks_pos t h.2.2.1

/-- what holds of each row: no error of the set's is none of the row's, and what it is is in the set -/
theorem sound_row (p : List Cd) (ks : List Int) (rows : List (List C.Cl)) (hchk : ∀ c, c < ks.length → C.chk (ks.getD c 0) (colOf rows c) = 0) (hlen : 0 < ks.length → ∀ i, i < rows.length → (rows.getD i []).length = ks.length) (i : Nat) (hi : i < rows.length) :
    (((pruneR p ks (kn rows ks.length) (fl rows ks.length)).2 ≠ 0 ∧ (askR p ks (rows.getD i [])).2 ≠ 0) ∨
     ((pruneR p ks (kn rows ks.length) (fl rows ks.length)).2 = 0 ∧ (askR p ks (rows.getD i [])).2 = 0 ∧ has (pruneR p ks (kn rows ks.length) (fl rows ks.length)).1 (askR p ks (rows.getD i [])).1 = true)) ∧ (askR p ks (rows.getD i [])).1 ≤ 2 := by
  by_cases hc : check p ks ≠ 0
  · have e1 : pruneR p ks (kn rows ks.length) (fl rows ks.length) = (0, check p ks) := by unfold pruneR; rw [if_pos hc]
    have e2 : askR p ks (rows.getD i []) = (0, check p ks) := by unfold askR; rw [if_pos hc]
    rw [e1, e2]
    exact ⟨Or.inl ⟨hc, hc⟩, by show 0 ≤ 2; omega⟩
  · have hc0 : check p ks = 0 := by omega
    obtain ⟨h16, t, hok, hft⟩ := tree hc0
    have hpos := ks_pos t hok
    have hl := hlen hpos i hi
    have hre : rowE ks (rows.getD i []) = 0 := rowE_zero ks _ hl (fun c hcl => by
      obtain ⟨k1, k2, k3⟩ := C.chk_ok (hchk c hcl)
      exact C.chk_of k1 (by simp) (fun x hx => by rw [List.mem_singleton.1 hx]; exact k3 _ (col_mem rows i c hi)))
    have hke : knownE ks (kn rows ks.length) = 0 := knownE_zero ks _ (kn_length _ _) (fun c hcl => by
      rw [kn_get _ _ _ hcl]; exact S.ck_of (S.known_ok (hchk c hcl)))
    rw [pruneR_tree hok hft h16 (kn_length _ _) (fl_length _ _) hke, askR_tree hok hft h16 hl hre]
    refine ⟨Or.inr ⟨rfl, rfl, ?_⟩, ev_le _ (fun c => told_le _ _) t⟩
    refine ev_sound ks _ _ (fun c => told_le _ _) (fun c => mayBe_lt _ _ _) (fun c hp ha => ?_) t hok
    have hlf := alone_leaf ha hp
    show has (mayBe c ((kn rows ks.length).getD c.col.toNat S.zero) ((fl rows ks.length).getD c.col.toNat Bl.none_)) (told c ((rows.getD i []).getD c.col.toNat C.null)) = true
    rw [kn_get _ _ _ (by omega), fl_get _ _ _ (by omega)]
    exact leaf_sound (hchk c.col.toNat (by omega)) (col_mem rows i c.col.toNat hi) hlf.1 hlf.2.1
theorem prune_bad (p : List Cd) (ks : List Int) (ss : List S.St) (fs : List Bl.F) : (pruneR p ks ss fs).2 ≠ 0 → (pruneR p ks ss fs).1 = 0 := by
  unfold pruneR
  by_cases h1 : check p ks ≠ 0
  · rw [if_pos h1]; intro _; rfl
  rw [if_neg h1]
  by_cases h2 : ss.length ≠ ks.length ∨ fs.length ≠ ks.length
  · rw [if_pos h2]; intro _; rfl
  rw [if_neg h2]
  by_cases h3 : knownE ks ss ≠ 0
  · rw [if_pos h3]; intro _; rfl
  rw [if_neg h3]
  intro h; exact absurd rfl h
theorem prune_lt (p : List Cd) (ks : List Int) (ss : List S.St) (fs : List Bl.F) : (pruneR p ks ss fs).1 < 8 ∧ (pruneR p ks ss fs).2 < 4294967296 := by
  have h1 := check_lt p ks
  unfold pruneR
  by_cases hc : check p ks ≠ 0
  · rw [if_pos hc]; exact ⟨by show 0 < 8; omega, by show check p ks < _; omega⟩
  rw [if_neg hc]
  split
  · exact ⟨by show 0 < 8; omega, by show 1 < 4294967296; omega⟩
  split
  · rename_i h
    refine ⟨by show 0 < 8; omega, ?_⟩
    show knownE ks ss < _
    have : ∀ (ks : List Int) (ss : List S.St), knownE ks ss < 9 := by
      intro ks
      induction ks with
      | nil => intro ss; unfold knownE; omega
      | cons k ks ih =>
        intro ss
        cases ss with
        | nil => unfold knownE; omega
        | cons s ss =>
          rw [knownE]
          split
          · unfold S.ck
            have h1 := cellE_lt k s.least
            have h2 := cellE_lt k s.most
            generalize C.cellE k s.least = z1 at *
            generalize C.cellE k s.most = z2 at *
            (repeat' split) <;> omega
          · exact ih ss
    have := this ks ss
    omega
  · obtain ⟨h16, t, hok, hft⟩ := tree (show check p ks = 0 by omega)
    rw [← hft, run_flat _ _ ks t hok]
    exact ⟨evS_lt _ (fun c => mayBe_lt _ _ _) t, by show 0 < 4294967296; omega⟩
end Go.Proofs.Ytecfknolpnjokaa.O
