/- Conditions: what is of a row is in the set of its columns. -/
import Derived.Test.YtecfknolpnjokaaOPlain2
namespace Go.Proofs.Ytecfknolpnjokaa.O
set_option linter.unusedVariables false

theorem has_or8 : ∀ a b : Fin 8, ∀ t : Fin 3, has (a.val ||| b.val) t.val = (has a.val t.val || has b.val t.val) := by decide +kernel
theorem has_or {a b t : Nat} (ha : a < 8) (hb : b < 8) (ht : t ≤ 2) : has (a ||| b) t = (has a t || has b t) := has_or8 ⟨a, ha⟩ ⟨b, hb⟩ ⟨t, by omega⟩
theorem has_pow3 : ∀ a t : Fin 3, has (2 ^ a.val) t.val = decide (a.val = t.val) := by decide +kernel
theorem has_pow {a t : Nat} (ha : a ≤ 2) (ht : t ≤ 2) : has (2 ^ a) t = decide (a = t) := has_pow3 ⟨a, by omega⟩ ⟨t, by omega⟩
theorem joS_has5 : ∀ a b : Fin 8, ∀ x y : Fin 3, has a.val x.val = true → has b.val y.val = true → has (joS 5 a.val b.val) (jo 5 x.val y.val) = true := by decide +kernel
theorem joS_has6 : ∀ a b : Fin 8, ∀ x y : Fin 3, has a.val x.val = true → has b.val y.val = true → has (joS 6 a.val b.val) (jo 6 x.val y.val) = true := by decide +kernel
theorem joS_has7 : ∀ a : Fin 8, ∀ x : Fin 3, has a.val x.val = true → has (joS 7 a.val a.val) (jo 7 x.val x.val) = true := by decide +kernel

theorem there_of {x : C.Cl} {l : List C.Cl} (hx : x ∈ l) (hk : x.kind ≠ 0) : (S.known l).nulls < (S.known l).rows := by
  show (l.length : Int) - ((C.dense l).length : Int) < (l.length : Int)
  have : x ∈ C.dense l := by unfold C.dense; rw [List.mem_filter]; exact ⟨hx, by unfold C.here; exact decide_eq_true hk⟩
  have := List.length_pos_of_mem this
  omega
theorem null_of {x : C.Cl} {l : List C.Cl} (hx : x ∈ l) (hk : x.kind = 0) : 0 < (S.known l).nulls := by
  show 0 < (l.length : Int) - ((C.dense l).length : Int)
  have h : (C.dense l).length < l.length := by
    unfold C.dense
    refine Nat.lt_of_le_of_ne (List.length_filter_le _ _) (fun e => ?_)
    have := List.length_filter_eq_length_iff.1 e x hx
    unfold C.here at this
    exact (of_decide_eq_true this) hk
  omega
theorem fil_may (f : Bl.F) (l : List C.Cl) (x : C.Cl) (hx : x ∈ l) : Bl.may (Bl.fil f l) x = true := by
  obtain ⟨a, b, rfl⟩ := List.append_of_mem hx
  have h := Bl.may_never f a b x
  have e : Bl.fil f (a ++ x :: b) = Bl.fil (Bl.add (Bl.fil f a) x) b := by simp [Bl.fil]
  rw [e]; exact h
/-- what a leaf is of a cell of a column is in its set -/
theorem leaf_sound {k : Int} {c : Cd} {l : List C.Cl} {x : C.Cl} (hl : C.chk k l = 0) (hx : x ∈ l) (h1 : 1 ≤ c.op) (h4 : c.op ≤ 4) : has (mayBe c (S.known l) (Bl.fil Bl.none_ l)) (told c x) = true := by
  have hokk := S.known_ok hl
  have ht := there_lt c (S.known l) (Bl.fil Bl.none_ l)
  have hn := pow_le _ (told_le c C.null)
  have htl := told_le c x
  unfold mayBe
  by_cases hk : x.kind = 0
  · have hz := null_of hx hk
    rw [if_pos hz, has_or (by omega) (by split <;> omega) htl, has_pow (told_le _ _) htl]
    have : told c C.null = told c x := by
      unfold told
      simp [hk, C.null]
    rw [this]; simp
  · have hr := there_of hx hk
    rw [if_pos hr, has_or (by split <;> omega) ht htl]
    have hkk := Ok_here hokk hr
    have hb := S.bound hx hk
    have : has (there c (S.known l) (Bl.fil Bl.none_ l)) (told c x) = true := by
      unfold there
      by_cases a1 : c.op = 1
      · rw [if_neg (show ¬ c.op ≠ 1 from fun h => h a1)]
        have htold : told c x = if x = c.c then 2 else 0 := by
          unfold told
          rw [if_neg (show ¬ c.op = 4 by omega), if_neg hk, if_neg (show ¬ c.op = 2 by omega), if_neg (show ¬ c.op = 3 by omega)]
          by_cases e : x = c.c <;> simp [e]
        by_cases e : x = c.c
        · have hm : Bl.may (Bl.fil Bl.none_ l) c.c = true := by rw [← e]; exact fil_may Bl.none_ l x hx
          rw [htold, if_pos e, if_neg (by rw [← e, hb.1, hb.2, e, hm]; simp)]
          split <;> decide
        · rw [htold, if_neg e]
          by_cases q1 : (C.less c.c (S.known l).least || C.less (S.known l).most c.c || !Bl.may (Bl.fil Bl.none_ l) c.c) = true
          · rw [if_pos q1]; decide
          · rw [if_neg q1]
            by_cases q2 : (S.known l).least = (S.known l).most
            · exfalso
              rw [← q2] at hb q1
              have hxl : x = (S.known l).least := S.ltri hb.1 hb.2
              have hcl : c.c = (S.known l).least := by
                simp only [Bool.or_eq_true, not_or, Bool.not_eq_true] at q1
                exact S.ltri q1.1.1 q1.1.2
              exact e (by rw [hxl, hcl])
            · rw [if_neg q2]; decide
      · rw [if_pos a1, has_or (by have := pow_le _ (told_le c (S.known l).least); omega) (by have := pow_le _ (told_le c (S.known l).most); omega) htl, has_pow (told_le _ _) htl, has_pow (told_le _ _) htl]
        have : told c (S.known l).least = told c x ∨ told c (S.known l).most = told c x := by
          unfold told
          by_cases a4 : c.op = 4
          · left; rw [if_pos a4, if_pos a4, if_neg hkk.1, if_neg hk]
          · rw [if_neg a4, if_neg a4, if_neg a4, if_neg hkk.1, if_neg hk, if_neg hkk.2]
            by_cases a2 : c.op = 2
            · rw [if_pos a2, if_pos a2, if_pos a2]
              cases e : C.less x c.c
              · right
                have : C.less (S.known l).most c.c = false := S.le_tr e hb.2
                rw [this]
              · left
                have : C.less (S.known l).least c.c = true := by
                  cases e2 : C.less (S.known l).least c.c
                  · have := S.le_tr e2 hb.1
                    rw [this] at e; cases e
                  · rfl
                rw [this]
            · have a3 : c.op = 3 := by omega
              rw [if_neg a2, if_neg a2, if_neg a2, if_pos a3, if_pos a3, if_pos a3]
              cases e : C.less c.c x
              · left
                have : C.less c.c (S.known l).least = false := S.le_tr hb.1 e
                rw [this]
              · right
                have : C.less c.c (S.known l).most = true := by
                  cases e2 : C.less c.c (S.known l).most
                  · have := S.le_tr hb.2 e2
                    rw [this] at e; cases e
                  · rfl
                rw [this]
        rcases this with h | h <;> rw [h] <;> simp
    rw [this, Bool.or_true]
theorem ev_sound (ks : List Int) (ask : Cd → Nat) (askS : Cd → Nat) (h3 : ∀ c, ask c ≤ 2) (h8 : ∀ c, askS c < 8) (h : ∀ c, parts c.op = 0 → alone ks c = 0 → has (askS c) (ask c) = true) : ∀ t : T, ok ks t → has (ev askS joS t) (ev ask jo t) = true
  | .leaf c, hk => h c hk.1 hk.2
  | .one c t, hk => by
    have hop : c.op = 7 := by rcases parts_cases c.op with q | q | q <;> have := hk.1 <;> omega
    rw [ev, ev, hop]
    have e1 := evS_lt askS h8 t
    have e2 := ev_le ask h3 t
    exact joS_has7 ⟨_, e1⟩ ⟨_, by omega⟩ (ev_sound ks ask askS h3 h8 h t hk.2.2)
  | .two c t u, hk => by
    have hop : c.op = 5 ∨ c.op = 6 := by rcases parts_cases c.op with q | q | q <;> have := hk.1 <;> omega
    have e1 := evS_lt askS h8 t
    have e2 := ev_le ask h3 t
    have f1 := evS_lt askS h8 u
    have f2 := ev_le ask h3 u
    have i1 := ev_sound ks ask askS h3 h8 h t hk.2.2.1
    have i2 := ev_sound ks ask askS h3 h8 h u hk.2.2.2
    rw [ev, ev]
    rcases hop with hop | hop
    · rw [hop]; exact joS_has5 ⟨_, e1⟩ ⟨_, f1⟩ ⟨_, by omega⟩ ⟨_, by omega⟩ i1 i2
    · rw [hop]; exact joS_has6 ⟨_, e1⟩ ⟨_, f1⟩ ⟨_, by omega⟩ ⟨_, by omega⟩ i1 i2
end Go.Proofs.Ytecfknolpnjokaa.O
