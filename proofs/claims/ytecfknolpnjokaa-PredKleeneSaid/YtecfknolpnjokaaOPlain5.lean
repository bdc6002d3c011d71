/- Conditions: of more rows no less may be. -/
import Derived.Test.YtecfknolpnjokaaOPlain4
namespace Go.Proofs.Ytecfknolpnjokaa.O
set_option linter.unusedVariables false

theorem null_in {l : List C.Cl} (h : 0 < (S.known l).nulls) : ∃ x ∈ l, x.kind = 0 := by
  have h : (0 : Int) < (l.length : Int) - ((C.dense l).length : Int) := h
  refine Classical.byContradiction fun hn => ?_
  have : (C.dense l).length = l.length := by
    unfold C.dense
    refine List.length_filter_eq_length_iff.2 fun x hx => ?_
    unfold C.here
    exact decide_eq_true fun e => hn ⟨x, hx, e⟩
  omega
theorem dense_of {l : List C.Cl} (h : (S.known l).nulls < (S.known l).rows) : C.dense l ≠ [] := by
  have h : (l.length : Int) - ((C.dense l).length : Int) < (l.length : Int) := h
  intro e
  rw [e] at h
  simp at h
theorem has_zero {t : Nat} (ht : t ≤ 2) : has 0 t = false := by rcases three t ht with rfl | rfl | rfl <;> decide
theorem has_one {t : Nat} (ht : t ≤ 2) (h : has 1 t = true) : t = 0 := by rcases three t ht with rfl | rfl | rfl <;> revert h <;> decide
theorem has_four {t : Nat} (ht : t ≤ 2) (h : has 4 t = true) : t = 2 := by rcases three t ht with rfl | rfl | rfl <;> revert h <;> decide
theorem has_five {t : Nat} (ht : t ≤ 2) (h : has 5 t = true) : t = 0 ∨ t = 2 := by rcases three t ht with rfl | rfl | rfl <;> revert h <;> decide

theorem chk_left {k : Int} {l m : List C.Cl} (h : C.chk k (l ++ m) = 0) : C.chk k l = 0 := by
  obtain ⟨h1, h2, h3⟩ := C.chk_ok h
  rw [List.length_append] at h2
  exact C.chk_of h1 (by omega) fun c hc => h3 c (List.mem_append_left m hc)

/-- of a longer column a leaf may be no less -/
theorem leaf_more {k : Int} {c : Cd} {l m : List C.Cl} (hl : C.chk k (l ++ m) = 0) (h1 : 1 ≤ c.op) (h4 : c.op ≤ 4) (t : Nat) (ht : t ≤ 2)
    (h : has (mayBe c (S.known l) (Bl.fil Bl.none_ l)) t = true) : has (mayBe c (S.known (l ++ m)) (Bl.fil Bl.none_ (l ++ m))) t = true := by
  have hok := S.known_ok (chk_left hl)
  have hth := there_lt c (S.known l) (Bl.fil Bl.none_ l)
  have hn := pow_le _ (told_le c C.null)
  have hth2 := there_lt c (S.known (l ++ m)) (Bl.fil Bl.none_ (l ++ m))
  have snd : ∀ x ∈ l, t = told c x → has (mayBe c (S.known (l ++ m)) (Bl.fil Bl.none_ (l ++ m))) t = true := by
    intro x hx e
    rw [e]; exact leaf_sound hl (List.mem_append_left m hx) h1 h4
  unfold mayBe at h
  rw [has_or (by split <;> omega) (by split <;> omega) ht, Bool.or_eq_true] at h
  rcases h with h | h
  · by_cases q : 0 < (S.known l).nulls
    · rw [if_pos q, has_pow (told_le _ _) ht] at h
      obtain ⟨x, hx, hk⟩ := null_in q
      refine snd x hx ?_
      rw [← of_decide_eq_true h]
      unfold told
      simp [hk, C.null]
    · rw [if_neg q] at h
      exact absurd h (by rw [has_zero ht]; simp)
  · by_cases q : (S.known l).nulls < (S.known l).rows
    · rw [if_pos q] at h
      obtain ⟨⟨i1, k1⟩, i2, k2⟩ := S.bound_in (dense_of q)
      have bl := S.bound (List.mem_append_left m i1) k1
      have bm := S.bound (List.mem_append_left m i2) k2
      have bll := S.bound i1 k1
      have bmm := S.bound i2 k2
      have hR := there_of (List.mem_append_left m i1) k1
      unfold there at h
      by_cases a1 : c.op = 1
      · rw [if_neg (show ¬ c.op ≠ 1 from fun e => e a1)] at h
        have goal : has (there c (S.known (l ++ m)) (Bl.fil Bl.none_ (l ++ m))) t = true → has (mayBe c (S.known (l ++ m)) (Bl.fil Bl.none_ (l ++ m))) t = true := by
          intro e
          unfold mayBe
          rw [if_pos hR, has_or (by split <;> omega) hth2 ht, e, Bool.or_true]
        refine goal ?_
        unfold there
        rw [if_neg (show ¬ c.op ≠ 1 from fun e => e a1)]
        by_cases Q : (C.less c.c (S.known (l ++ m)).least || C.less (S.known (l ++ m)).most c.c || !Bl.may (Bl.fil Bl.none_ (l ++ m)) c.c) = true
        · rw [if_pos Q]
          by_cases q1 : (C.less c.c (S.known l).least || C.less (S.known l).most c.c || !Bl.may (Bl.fil Bl.none_ l) c.c) = true
          · rw [if_pos q1] at h; exact h
          · exfalso
            simp only [Bool.or_eq_true, not_or, Bool.not_eq_true, Bool.not_eq_eq_eq_not, Bool.not_true] at q1
            obtain ⟨⟨r1, r2⟩, r3⟩ := q1
            have e1 : C.less c.c (S.known (l ++ m)).least = false := S.le_tr bl.1 r1
            have e2 : C.less (S.known (l ++ m)).most c.c = false := S.le_tr r2 bm.2
            have e3 : Bl.may (Bl.fil Bl.none_ (l ++ m)) c.c = true := by
              rw [Bl.fil_append, Bl.fil_more]
              refine Bl.may_more ?_ _
              cases hh : Bl.may (Bl.fil Bl.none_ l) c.c
              · rw [hh] at r3; simp at r3
              · rfl
            rw [e1, e2, e3] at Q
            simp at Q
        · rw [if_neg Q]
          by_cases E : (S.known (l ++ m)).least = (S.known (l ++ m)).most
          · rw [if_pos E]
            simp only [Bool.or_eq_true, not_or, Bool.not_eq_true, Bool.not_eq_eq_eq_not, Bool.not_true] at Q
            obtain ⟨⟨r1, r2⟩, _⟩ := Q
            rw [← E] at r2 bl bm
            have x1 := S.ltri bl.1 bl.2
            have x2 := S.ltri bm.1 bm.2
            have x3 := S.ltri r1 r2
            have hm := fil_may Bl.none_ l _ i1
            rw [if_neg (by rw [x3, ← x1, bll.1, show (S.known l).most = (S.known l).least by rw [x2, x1], bll.1, hm]; simp), if_pos (by rw [x1, x2])] at h
            exact h
          · rw [if_neg E]
            by_cases q1 : (C.less c.c (S.known l).least || C.less (S.known l).most c.c || !Bl.may (Bl.fil Bl.none_ l) c.c) = true
            · rw [if_pos q1] at h
              rw [has_one ht h]; decide
            · rw [if_neg q1] at h
              by_cases E2 : (S.known l).least = (S.known l).most
              · rw [if_pos E2] at h; rw [has_four ht h]; decide
              · rw [if_neg E2] at h; exact h
      · rw [if_pos a1, has_or (by have := pow_le _ (told_le c (S.known l).least); omega) (by have := pow_le _ (told_le c (S.known l).most); omega) ht, has_pow (told_le _ _) ht, has_pow (told_le _ _) ht, Bool.or_eq_true] at h
        rcases h with h | h
        · exact snd _ i1 (of_decide_eq_true h).symm
        · exact snd _ i2 (of_decide_eq_true h).symm
    · rw [if_neg q] at h
      exact absurd h (by rw [has_zero ht]; simp)

def sub (a b : Nat) : Prop := ∀ t, t ≤ 2 → has a t = true → has b t = true
def subB (a b : Nat) : Bool := a ||| b == b
theorem sub8 : ∀ a b : Fin 8, (has a.val 0 = true → has b.val 0 = true) → (has a.val 1 = true → has b.val 1 = true) → (has a.val 2 = true → has b.val 2 = true) → subB a.val b.val = true := by decide +kernel
theorem sub8' : ∀ a b : Fin 8, subB a.val b.val = true → ∀ t : Fin 3, has a.val t.val = true → has b.val t.val = true := by decide +kernel
theorem subB_of {a b : Nat} (ha : a < 8) (hb : b < 8) (h : sub a b) : subB a b = true := sub8 ⟨a, ha⟩ ⟨b, hb⟩ (h 0 (by omega)) (h 1 (by omega)) (h 2 (by omega))
theorem sub_of {a b : Nat} (ha : a < 8) (hb : b < 8) (h : subB a b = true) : sub a b := fun t ht => sub8' ⟨a, ha⟩ ⟨b, hb⟩ h ⟨t, by omega⟩
theorem joS_more5 : ∀ a a' : Fin 8, subB a.val a'.val = true → ∀ b b' : Fin 8, subB b.val b'.val = true → subB (joS 5 a.val b.val) (joS 5 a'.val b'.val) = true := by decide +kernel
theorem joS_more6 : ∀ a a' : Fin 8, subB a.val a'.val = true → ∀ b b' : Fin 8, subB b.val b'.val = true → subB (joS 6 a.val b.val) (joS 6 a'.val b'.val) = true := by decide +kernel
theorem joS_more7 : ∀ a a' : Fin 8, subB a.val a'.val = true → subB (joS 7 a.val a.val) (joS 7 a'.val a'.val) = true := by decide +kernel
theorem ev_more (ks : List Int) (f g : Cd → Nat) (hf : ∀ c, f c < 8) (hg : ∀ c, g c < 8) (h : ∀ c, parts c.op = 0 → alone ks c = 0 → subB (f c) (g c) = true) : ∀ t : T, ok ks t → subB (ev f joS t) (ev g joS t) = true
  | .leaf c, hk => h c hk.1 hk.2
  | .one c t, hk => by
    have hop : c.op = 7 := by rcases parts_cases c.op with q | q | q <;> have := hk.1 <;> omega
    rw [ev, ev, hop]
    exact joS_more7 ⟨_, evS_lt f hf t⟩ ⟨_, evS_lt g hg t⟩ (ev_more ks f g hf hg h t hk.2.2)
  | .two c t u, hk => by
    have hop : c.op = 5 ∨ c.op = 6 := by rcases parts_cases c.op with q | q | q <;> have := hk.1 <;> omega
    have i1 := ev_more ks f g hf hg h t hk.2.2.1
    have i2 := ev_more ks f g hf hg h u hk.2.2.2
    rw [ev, ev]
    rcases hop with hop | hop
    · rw [hop]; exact joS_more5 ⟨_, evS_lt f hf t⟩ ⟨_, evS_lt g hg t⟩ i1 ⟨_, evS_lt f hf u⟩ ⟨_, evS_lt g hg u⟩ i2
    · rw [hop]; exact joS_more6 ⟨_, evS_lt f hf t⟩ ⟨_, evS_lt g hg t⟩ i1 ⟨_, evS_lt f hf u⟩ ⟨_, evS_lt g hg u⟩ i2
theorem col_append (a b : List (List C.Cl)) (c : Nat) : colOf (a ++ b) c = colOf a c ++ colOf b c := by simp [colOf]
/-- of more rows no less may be -/
theorem prune_more (p : List Cd) (ks : List Int) (rows more : List (List C.Cl)) (hchk : ∀ c, c < ks.length → C.chk (ks.getD c 0) (colOf (rows ++ more) c) = 0) :
    (pruneR p ks (kn rows ks.length) (fl rows ks.length)).2 = (pruneR p ks (kn (rows ++ more) ks.length) (fl (rows ++ more) ks.length)).2 ∧
    subB (pruneR p ks (kn rows ks.length) (fl rows ks.length)).1 (pruneR p ks (kn (rows ++ more) ks.length) (fl (rows ++ more) ks.length)).1 = true := by
  by_cases hc : check p ks ≠ 0
  · have e : ∀ s f, pruneR p ks s f = (0, check p ks) := fun s f => by unfold pruneR; rw [if_pos hc]
    rw [e, e]; exact ⟨rfl, show subB 0 0 = true by decide⟩
  · obtain ⟨h16, t, hok, hft⟩ := tree (show check p ks = 0 by omega)
    have hke : knownE ks (kn (rows ++ more) ks.length) = 0 := knownE_zero ks _ (kn_length _ _) (fun c hcl => by
      rw [kn_get _ _ _ hcl]; exact S.ck_of (S.known_ok (hchk c hcl)))
    have hke2 : knownE ks (kn rows ks.length) = 0 := knownE_zero ks _ (kn_length _ _) (fun c hcl => by
      rw [kn_get _ _ _ hcl]; refine S.ck_of (S.known_ok ?_)
      have := hchk c hcl
      rw [col_append] at this
      exact chk_left this)
    rw [pruneR_tree hok hft h16 (kn_length _ _) (fl_length _ _) hke, pruneR_tree hok hft h16 (kn_length _ _) (fl_length _ _) hke2]
    refine ⟨rfl, ?_⟩
    refine ev_more ks _ _ (fun c => mayBe_lt _ _ _) (fun c => mayBe_lt _ _ _) (fun c hp ha => ?_) t hok
    have hlf := alone_leaf ha hp
    refine subB_of (mayBe_lt _ _ _) (mayBe_lt _ _ _) (fun t ht h => ?_)
    show has (mayBe c ((kn (rows ++ more) ks.length).getD c.col.toNat S.zero) ((fl (rows ++ more) ks.length).getD c.col.toNat Bl.none_)) t = true
    replace h : has (mayBe c ((kn rows ks.length).getD c.col.toNat S.zero) ((fl rows ks.length).getD c.col.toNat Bl.none_)) t = true := h
    rw [kn_get _ _ _ (by omega), fl_get _ _ _ (by omega)] at h ⊢
    have hk := hchk c.col.toNat (by omega)
    rw [col_append] at hk ⊢
    exact leaf_more hk hlf.1 hlf.2.1 t ht h
end Go.Proofs.Ytecfknolpnjokaa.O
