/- Conditions: how a list of nodes is read as a tree, what it is of a row, and what it may be of columns. -/
import Derived.Test.YtecfknolpnjokaaQ3
namespace Go.Proofs.Ytecfknolpnjokaa.O
set_option linter.unusedVariables false

structure Cd where
  op : Int
  col : Int
  c : C.Cl
deriving DecidableEq
def nullC : Cd := ⟨0, 0, C.null⟩
def parts (op : Int) : Nat := if op = 5 ∨ op = 6 then 2 else if op = 7 then 1 else 0
/-- a node by itself -/
def alone (ks : List Int) (c : Cd) : Nat :=
  if c.op < 1 ∨ 7 < c.op then 7
  else if 5 ≤ c.op then (if c.col ≠ 0 ∨ c.c ≠ C.null then 1 else 0)
  else if c.col < 0 ∨ (ks.length : Int) ≤ c.col then 3
  else if ks.getD c.col.toNat 0 ≠ 1 ∧ ks.getD c.col.toNat 0 ≠ 2 then 7
  else if c.op = 4 then (if c.c ≠ C.null then 1 else 0)
  else if C.cellE (ks.getD c.col.toNat 0) c.c ≠ 0 then C.cellE (ks.getD c.col.toNat 0) c.c
  else if c.c.kind = 0 then 7 else 0
def nodeE (ks : List Int) (free : Nat) (c : Cd) : Nat := if alone ks c ≠ 0 then alone ks c else if free < parts c.op then 1 else 0
def chk (ks : List Int) : Nat → List Cd → Nat
  | free, [] => if free ≠ 1 then 1 else 0
  | free, c :: p => if nodeE ks free c ≠ 0 then nodeE ks free c else chk ks (free + 1 - parts c.op) p
def check (p : List Cd) (ks : List Int) : Nat := if 16 < p.length then 2 else chk ks 0 p

theorem parts_cases (op : Int) : (parts op = 0 ∧ op ≠ 5 ∧ op ≠ 6 ∧ op ≠ 7) ∨ (parts op = 1 ∧ op = 7) ∨ (parts op = 2 ∧ (op = 5 ∨ op = 6)) := by
  unfold parts
  by_cases h : op = 5 ∨ op = 6
  · rw [if_pos h]; exact Or.inr (Or.inr ⟨rfl, h⟩)
  · rw [if_neg h]
    by_cases h7 : op = 7
    · rw [if_pos h7]; exact Or.inr (Or.inl ⟨rfl, h7⟩)
    · rw [if_neg h7]; exact Or.inl ⟨rfl, fun e => h (Or.inl e), fun e => h (Or.inr e), h7⟩
theorem parts_le (op : Int) : parts op ≤ 2 := by rcases parts_cases op with h | h | h <;> omega

inductive T where
  | leaf (c : Cd)
  | one (c : Cd) (t : T)
  | two (c : Cd) (t u : T)
def flat : T → List Cd
  | .leaf c => [c]
  | .one c t => flat t ++ [c]
  | .two c t u => flat t ++ flat u ++ [c]
def ok (ks : List Int) : T → Prop
  | .leaf c => parts c.op = 0 ∧ alone ks c = 0
  | .one c t => parts c.op = 1 ∧ alone ks c = 0 ∧ ok ks t
  | .two c t u => parts c.op = 2 ∧ alone ks c = 0 ∧ ok ks t ∧ ok ks u
/-- the trees that belong to nobody, the last one first -/
def flatsR : List T → List Cd
  | [] => []
  | t :: st => flatsR st ++ flat t
theorem flat_pos : ∀ t : T, 0 < (flat t).length
  | .leaf c => by simp [flat]
  | .one c t => by simp [flat]
  | .two c t u => by simp [flat]; omega

theorem nodeE_zero {ks : List Int} {free : Nat} {c : Cd} (h : nodeE ks free c = 0) : alone ks c = 0 ∧ parts c.op ≤ free := by
  unfold nodeE at h
  by_cases h1 : alone ks c ≠ 0
  · rw [if_pos h1] at h; exact absurd h h1
  · rw [if_neg h1] at h
    by_cases h2 : free < parts c.op
    · rw [if_pos h2] at h; cases h
    · exact ⟨by omega, by omega⟩
theorem nodeE_of {ks : List Int} {free : Nat} {c : Cd} (h : alone ks c = 0) (h2 : parts c.op ≤ free) : nodeE ks free c = 0 := by
  unfold nodeE; rw [if_neg (by omega), if_neg (by omega)]
theorem chk_cons {ks : List Int} {free : Nat} {c : Cd} {p : List Cd} (h : alone ks c = 0) (h2 : parts c.op ≤ free) : chk ks free (c :: p) = chk ks (free + 1 - parts c.op) p := by
  rw [chk, if_neg (by rw [nodeE_of h h2]; omega)]

theorem parse (ks : List Int) : ∀ (p : List Cd) (st : List T), (∀ t ∈ st, ok ks t) → chk ks st.length p = 0 → ∃ t, ok ks t ∧ flat t = flatsR st ++ p := by
  intro p
  induction p with
  | nil =>
    intro st hst h
    unfold chk at h
    match st with
    | [] => simp at h
    | [t] => exact ⟨t, hst t (by simp), by simp [flatsR]⟩
    | t :: u :: st => simp at h
  | cons c p ih =>
    intro st hst h
    rw [chk] at h
    by_cases hn : nodeE ks st.length c ≠ 0
    · rw [if_pos hn] at h; exact absurd h hn
    · rw [if_neg hn] at h
      obtain ⟨ha, hp⟩ := nodeE_zero (show nodeE ks st.length c = 0 by omega)
      rcases parts_cases c.op with hc | hc | hc
      · obtain ⟨t, ht, hf⟩ := ih (.leaf c :: st) (by intro t ht; rcases List.mem_cons.1 ht with rfl | ht; exact ⟨hc.1, ha⟩; exact hst t ht) (by rw [List.length_cons]; rw [hc.1] at h; exact h)
        exact ⟨t, ht, by rw [hf]; simp [flatsR, flat]⟩
      · match st, hst, hp, h with
        | x :: st, hst, hp, h =>
          obtain ⟨t, ht, hf⟩ := ih (.one c x :: st) (by intro t ht; rcases List.mem_cons.1 ht with rfl | ht; exact ⟨hc.1, ha, hst x (by simp)⟩; exact hst t (by simp [ht])) (by
            rw [List.length_cons] at h ⊢; rw [hc.1] at h; exact h)
          exact ⟨t, ht, by rw [hf]; simp [flatsR, flat]⟩
        | [], _, hp, _ => rw [hc.1] at hp; simp at hp
      · match st, hst, hp, h with
        | y :: x :: st, hst, hp, h =>
          obtain ⟨t, ht, hf⟩ := ih (.two c x y :: st) (by intro t ht; rcases List.mem_cons.1 ht with rfl | ht; exact ⟨hc.1, ha, hst x (by simp), hst y (by simp)⟩; exact hst t (by simp [ht])) (by
            simp only [List.length_cons] at h ⊢; rw [hc.1] at h; exact h)
          exact ⟨t, ht, by rw [hf]; simp [flatsR, flat]⟩
        | [y], _, hp, _ => rw [hc.1] at hp; simp at hp
        | [], _, hp, _ => rw [hc.1] at hp; simp at hp
theorem tree {p : List Cd} {ks : List Int} (h : check p ks = 0) : p.length ≤ 16 ∧ ∃ t, ok ks t ∧ flat t = p := by
  unfold check at h
  by_cases h1 : 16 < p.length
  · rw [if_pos h1] at h; cases h
  · rw [if_neg h1] at h
    obtain ⟨t, ht, hf⟩ := parse ks p [] (by simp) h
    exact ⟨by omega, t, ht, by rw [hf]; simp [flatsR]⟩
theorem chk_flat (ks : List Int) : ∀ (t : T), ok ks t → ∀ (free : Nat) (r : List Cd), chk ks free (flat t ++ r) = chk ks (free + 1) r
  | .leaf c, h, free, r => by
    show chk ks free (c :: r) = _
    rw [chk_cons h.2 (by rw [h.1]; omega), h.1, Nat.sub_zero]
  | .one c t, h, free, r => by
    rw [flat, List.append_assoc, chk_flat ks t h.2.2, List.singleton_append, chk_cons h.2.1 (by rw [h.1]; omega), h.1, Nat.add_sub_cancel]
  | .two c t u, h, free, r => by
    rw [flat, List.append_assoc, List.append_assoc, chk_flat ks t h.2.2.1, chk_flat ks u h.2.2.2, List.singleton_append, chk_cons h.2.1 (by rw [h.1]; omega), h.1, show free + 1 + 1 + 1 - 2 = free + 1 by omega]
theorem check_flat {ks : List Int} {t : T} (h : ok ks t) (hl : (flat t).length ≤ 16) : check (flat t) ks = 0 := by
  unfold check
  rw [if_neg (by omega)]
  have := chk_flat ks t h 0 []
  rw [List.append_nil] at this
  rw [this]; rfl

/-- the nodes in their order: what a leaf is, and what comes of those that a node is of -/
def step (ask : Cd → Nat) (jo : Int → Nat → Nat → Nat) (st : List Nat) (c : Cd) : List Nat :=
  if parts c.op = 0 then st ++ [ask c] else st.take (st.length - parts c.op) ++ [jo c.op (st.getD (st.length - parts c.op) 0) (st.getD (st.length - 1) 0)]
def run (ask : Cd → Nat) (jo : Int → Nat → Nat → Nat) (st : List Nat) (p : List Cd) : List Nat := p.foldl (step ask jo) st
def ev (ask : Cd → Nat) (jo : Int → Nat → Nat → Nat) : T → Nat
  | .leaf c => ask c
  | .one c t => jo c.op (ev ask jo t) (ev ask jo t)
  | .two c t u => jo c.op (ev ask jo t) (ev ask jo u)
theorem run_snoc (ask : Cd → Nat) (jo : Int → Nat → Nat → Nat) (st : List Nat) (p : List Cd) (c : Cd) : run ask jo st (p ++ [c]) = step ask jo (run ask jo st p) c := by simp [run]
theorem run_append (ask : Cd → Nat) (jo : Int → Nat → Nat → Nat) (st : List Nat) (p q : List Cd) : run ask jo st (p ++ q) = run ask jo (run ask jo st p) q := List.foldl_append
theorem run_flat (ask : Cd → Nat) (jo : Int → Nat → Nat → Nat) (ks : List Int) : ∀ (t : T), ok ks t → ∀ st, run ask jo st (flat t) = st ++ [ev ask jo t]
  | .leaf c, h, st => by
    show step ask jo st c = _
    rw [step, if_pos h.1]; rfl
  | .one c t, h, st => by
    rw [flat, run_snoc, run_flat ask jo ks t h.2.2, step, if_neg (by rw [h.1]; omega), h.1]
    simp [ev, List.getD]
  | .two c t u, h, st => by
    rw [flat, run_snoc, run_append, run_flat ask jo ks t h.2.2.1, run_flat ask jo ks u h.2.2.2, step, if_neg (by rw [h.1]; omega), h.1]
    simp [ev, List.getD]
/-- how many stand behind k nodes -/
theorem run_len (ask : Cd → Nat) (jo : Int → Nat → Nat → Nat) (st : List Nat) (c : Cd) (h : parts c.op ≤ st.length) : (step ask jo st c).length = st.length + 1 - parts c.op := by
  unfold step
  split
  · rename_i h0; rw [h0]; simp
  · rw [List.length_append, List.length_take]; simp; omega

/-- what a leaf is of a cell -/
def told (c : Cd) (x : C.Cl) : Nat :=
  if c.op = 4 then (if x.kind = 0 then 2 else 0)
  else if x.kind = 0 then 1
  else if (if c.op = 2 then C.less x c.c else if c.op = 3 then C.less c.c x else decide (x = c.c)) = true then 2 else 0
def jo (op : Int) (a b : Nat) : Nat := if op = 5 then min a b else if op = 6 then max a b else 2 - a
theorem told_le (c : Cd) (x : C.Cl) : told c x ≤ 2 := by
  unfold told
  (repeat' split) <;> omega
theorem jo_le (op : Int) (a b : Nat) (ha : a ≤ 2) (hb : b ≤ 2) : jo op a b ≤ 2 := by
  unfold jo
  (repeat' split) <;> omega
theorem ev_le (ask : Cd → Nat) (h : ∀ c, ask c ≤ 2) : ∀ t : T, ev ask jo t ≤ 2
  | .leaf c => h c
  | .one c t => jo_le _ _ _ (ev_le ask h t) (ev_le ask h t)
  | .two c t u => jo_le _ _ _ (ev_le ask h t) (ev_le ask h u)
def askL (row : List C.Cl) (c : Cd) : Nat := told c (row.getD c.col.toNat C.null)
def rowE : List Int → List C.Cl → Nat
  | k :: ks, c :: cs => if C.chk k [c] ≠ 0 then C.chk k [c] else rowE ks cs
  | _, _ => 0
def askR (p : List Cd) (ks : List Int) (row : List C.Cl) : Nat × Nat :=
  if check p ks ≠ 0 then (0, check p ks) else if row.length ≠ ks.length then (0, 1) else if rowE ks row ≠ 0 then (0, rowE ks row) else ((run (askL row) jo [] p).getD 0 0, 0)
theorem askR_tree {p : List Cd} {ks : List Int} {row : List C.Cl} {t : T} (h : ok ks t) (hf : flat t = p) (hl : p.length ≤ 16) (h1 : row.length = ks.length) (h2 : rowE ks row = 0) : askR p ks row = (ev (askL row) jo t, 0) := by
  unfold askR
  rw [if_neg (by rw [← hf, check_flat h (by rw [hf]; exact hl)]; omega), if_neg (by omega), if_neg (by omega), ← hf, run_flat _ _ ks t h]
  rfl

/-- sets of truth values: a bit for each -/
def has (s t : Nat) : Bool := s / 2 ^ t % 2 == 1
def mj (op : Int) (a b : Nat) : Nat → Nat
  | 0 => 0
  | n + 1 => if has a (n / 3) && has b (n % 3) then mj op a b n ||| 2 ^ jo op (n / 3) (n % 3) else mj op a b n
def joS (op : Int) (a b : Nat) : Nat := mj op a b 9
def there (c : Cd) (s : S.St) (f : Bl.F) : Nat :=
  if c.op ≠ 1 then 2 ^ told c s.least ||| 2 ^ told c s.most
  else if C.less c.c s.least || C.less s.most c.c || !Bl.may f c.c then 1
  else if s.least = s.most then 4 else 5
def mayBe (c : Cd) (s : S.St) (f : Bl.F) : Nat :=
  (if 0 < s.nulls then 2 ^ told c C.null else 0) ||| (if s.nulls < s.rows then there c s f else 0)
def askS (s : List S.St) (f : List Bl.F) (c : Cd) : Nat := mayBe c (s.getD c.col.toNat S.zero) (f.getD c.col.toNat Bl.none_)
def knownE : List Int → List S.St → Nat
  | k :: ks, c :: cs => if S.ck k c ≠ 0 then S.ck k c else knownE ks cs
  | _, _ => 0
def pruneR (p : List Cd) (ks : List Int) (s : List S.St) (f : List Bl.F) : Nat × Nat :=
  if check p ks ≠ 0 then (0, check p ks) else if s.length ≠ ks.length ∨ f.length ≠ ks.length then (0, 1) else if knownE ks s ≠ 0 then (0, knownE ks s) else ((run (askS s f) joS [] p).getD 0 0, 0)
theorem pruneR_tree {p : List Cd} {ks : List Int} {s : List S.St} {f : List Bl.F} {t : T} (h : ok ks t) (hf : flat t = p) (hl : p.length ≤ 16) (h1 : s.length = ks.length) (h3 : f.length = ks.length) (h2 : knownE ks s = 0) : pruneR p ks s f = (ev (askS s f) joS t, 0) := by
  unfold pruneR
  rw [if_neg (by rw [← hf, check_flat h (by rw [hf]; exact hl)]; omega), if_neg (by omega), if_neg (by omega), ← hf, run_flat _ _ ks t h]
  rfl
theorem three (t : Nat) (h : t ≤ 2) : t = 0 ∨ t = 1 ∨ t = 2 := by omega
theorem pow_le (t : Nat) (h : t ≤ 2) : 2 ^ t ≤ 4 := by rcases three t h with rfl | rfl | rfl <;> decide
theorem or_lt8 (a b : Nat) (ha : a < 8) (hb : b < 8) : a ||| b < 8 := Nat.or_lt_two_pow (n := 3) ha hb
theorem mj_lt (op : Int) (a b : Nat) : ∀ n, n ≤ 9 → mj op a b n < 8
  | 0, _ => by simp [mj]
  | n + 1, h => by
    have ih := mj_lt op a b n (by omega)
    rw [mj]
    split
    · refine or_lt8 _ _ ih ?_
      have := pow_le _ (jo_le op (n / 3) (n % 3) (by omega) (by omega))
      omega
    · exact ih
theorem joS_lt (op : Int) (a b : Nat) : joS op a b < 8 := mj_lt op a b 9 (by omega)
theorem there_lt (c : Cd) (s : S.St) (f : Bl.F) : there c s f < 8 := by
  unfold there
  have h1 := pow_le _ (told_le c s.least)
  have h2 := pow_le _ (told_le c s.most)
  split
  · exact or_lt8 _ _ (by omega) (by omega)
  · repeat' split
    all_goals omega
theorem mayBe_lt (c : Cd) (s : S.St) (f : Bl.F) : mayBe c s f < 8 := by
  unfold mayBe
  have h1 := pow_le _ (told_le c C.null)
  have h2 := there_lt c s f
  refine or_lt8 _ _ ?_ ?_
  · split <;> omega
  · split <;> omega
theorem evS_lt (ask : Cd → Nat) (h : ∀ c, ask c < 8) : ∀ t : T, ev ask joS t < 8
  | .leaf c => h c
  | .one c t => joS_lt _ _ _
  | .two c t u => joS_lt _ _ _
end Go.Proofs.Ytecfknolpnjokaa.O
