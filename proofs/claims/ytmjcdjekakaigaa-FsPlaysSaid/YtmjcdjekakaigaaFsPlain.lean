/- Plain mathematics of file systems that crash: what is said of them. -/
import Derived.Test.YtmjcdjekakaigaaRows
namespace Go.Proofs.Ytmjcdjekakaigaa.Fs
set_option linter.unusedVariables false

abbrev S := List UInt8
/-- an entry of a directory, a node, a file system, an op -/
structure En where
  name : S
  node : Int
deriving DecidableEq
structure Nd where
  live : S
  syn : S
deriving DecidableEq
structure T where
  nodes : List Nd
  dir : List En
  syn : List En
deriving DecidableEq
structure Op where
  kind : Int
  name : S
  to : S
  text : S
deriving DecidableEq
def nulE : En := ⟨[], 0⟩
def nulN : Nd := ⟨[], []⟩
def nul : T := ⟨[], [], []⟩
def nulO : Op := ⟨0, [], [], []⟩

def okB (b : UInt8) : Bool := decide (97 ≤ b.toNat) && decide (b.toNat ≤ 122)
def isName (s : S) : Bool := decide (1 ≤ s.length) && decide (s.length ≤ 12) && s.all okB

/-- may an entry stand behind these? -/
def entE (n : Nat) (b : List En) (x : En) : Nat :=
  if isName x.name = false then 1
  else if 0 < b.length ∧ ¬ (b.getD (b.length - 1) nulE).name < x.name then 4
  else if x.node < 0 ∨ (n : Int) ≤ x.node then 3
  else if b.any (fun y => decide (y.node = x.node)) = true then 6
  else 0
def dirC (n : Nat) : List En → List En → Nat
  | _, [] => 0
  | b, x :: r => if entE n b x ≠ 0 then entE n b x else dirC n (b ++ [x]) r
def big (x : Nd) : Bool := decide (65536 < x.live.length) || decide (65536 < x.syn.length)
def named (d s : List En) (i : Int) : Bool := d.any (fun e => decide (e.node = i)) || s.any (fun e => decide (e.node = i))
def allN (f : T) : Bool := (List.range f.nodes.length).all (fun i => named f.dir f.syn (i : Int))
def check (f : T) : Nat :=
  if 24 < f.nodes.length then 2
  else if f.nodes.any big = true then 2
  else if dirC f.nodes.length [] f.dir ≠ 0 then dirC f.nodes.length [] f.dir
  else if dirC f.nodes.length [] f.syn ≠ 0 then dirC f.nodes.length [] f.syn
  else if allN f = false then 4
  else 0

def pos (l : List En) (n : S) : Nat := (l.takeWhile (fun e => decide (e.name < n))).length
def has (l : List En) (n : S) : Bool := l.any (fun e => decide (e.name = n))
def nodeOf (l : List En) (n : S) : Int := ((l.find? (fun e => decide (e.name = n))).map En.node).getD (-1)
def withE (l : List En) (x : En) : List En := l.filter (fun e => decide (e.name < x.name)) ++ x :: l.filter (fun e => decide (x.name < e.name))
def less (l : List En) (n : S) : List En := l.filter (fun e => decide (e.name ≠ n))
def fewer (d s : List En) (i : Nat) : Nat := ((List.range i).filter (fun (j : Nat) => named d s (j : Int))).length
def moved (d s l : List En) : List En := l.map (fun e => ⟨e.name, (fewer d s e.node.toNat : Nat)⟩)
def keepN (d s : List En) (l : List Nd) (k : Nat) : List Nd := ((List.range k).filter (fun (j : Nat) => named d s (j : Int))).map (fun i => l.getD i nulN)
def swept (f : T) : T := ⟨keepN f.dir f.syn f.nodes f.nodes.length, moved f.dir f.syn f.dir, moved f.dir f.syn f.syn⟩

def said (o : Op) : Bool :=
  (if o.kind = 5 then decide (o.name = []) else isName o.name) && (if o.kind = 3 then isName o.to else decide (o.to = [])) && (decide (o.text = []) || decide (o.kind = 1))
def opE (o : Op) : Nat :=
  if o.kind < 1 ∨ 5 < o.kind then 7
  else if said o = false then 1
  else if 65536 < o.text.length then 2
  else 0
def landN (l : List Nd) (i : Nat) (live : Bool) : List Nd := l.set i (if live then ⟨(l.getD i nulN).live, (l.getD i nulN).live⟩ else ⟨(l.getD i nulN).syn, (l.getD i nulN).syn⟩)
/-- an op on a file that is there: node n -/
def turned (f : T) (o : Op) (n : Int) : T :=
  if o.kind = 2 then ⟨landN f.nodes n.toNat true, f.dir, f.syn⟩
  else if o.kind = 3 then ⟨f.nodes, withE (less f.dir o.name) ⟨o.to, n⟩, f.syn⟩
  else ⟨f.nodes, less f.dir o.name, f.syn⟩
def doOp (f : T) (o : Op) : T × Nat :=
  if opE o ≠ 0 then (nul, opE o)
  else if o.kind = 1 then
    if has f.dir o.name = true then (⟨f.nodes.set (nodeOf f.dir o.name).toNat ⟨o.text, (f.nodes.getD (nodeOf f.dir o.name).toNat nulN).syn⟩, f.dir, f.syn⟩, 0)
    else if f.nodes.length = 24 then (nul, 2)
    else (⟨f.nodes ++ [⟨o.text, []⟩], withE f.dir ⟨o.name, (f.nodes.length : Nat)⟩, f.syn⟩, 0)
  else if o.kind = 5 then (swept ⟨f.nodes, f.dir, f.dir⟩, 0)
  else if has f.dir o.name = false then (nul, 5)
  else (swept (turned f o (nodeOf f.dir o.name)), 0)
def playF : T → List Op → T × Nat
  | f, [] => (f, 0)
  | f, o :: r => if (doOp f o).2 ≠ 0 then (nul, (doOp f o).2) else playF (doOp f o).1 r
def play (f : T) (l : List Op) : T × Nat :=
  if check f ≠ 0 then (nul, check f) else if 64 < l.length then (nul, 2) else playF f l
def read (f : T) (n : S) : S × Nat :=
  if check f ≠ 0 then ([], check f) else if has f.dir n = false then ([], 5) else ((f.nodes.getD (nodeOf f.dir n).toNat nulN).live, 0)
def bit (m i : Nat) : Bool := decide (m / 2 ^ i % 2 = 1)
def landed (l : List Nd) (m : Nat) : List Nd := (List.range l.length).map (fun i => if bit m i then ⟨(l.getD i nulN).live, (l.getD i nulN).live⟩ else ⟨(l.getD i nulN).syn, (l.getD i nulN).syn⟩)
def crashD (f : T) (m : Nat) : List En := if 9223372036854775808 ≤ m then f.dir else f.syn
def crash (f : T) (m : Nat) : T × Nat :=
  if check f ≠ 0 then (nul, check f) else (swept ⟨landed f.nodes m, crashD f m, crashD f m⟩, 0)

theorem getD_mem {α : Type} (l : List α) (z : α) (k : Nat) (h : k < l.length) : l.getD k z ∈ l := by
  simp only [List.getD, List.getElem?_eq_getElem h, Option.getD_some]
  exact List.getElem_mem h
theorem getD_at {α : Type} (l : List α) (z : α) (k : Nat) (h : k < l.length) : l.getD k z = l[k] := by
  simp only [List.getD, List.getElem?_eq_getElem h, Option.getD_some]
theorem take_snoc {α : Type} (l : List α) (z : α) (k : Nat) (h : k < l.length) : l.take (k + 1) = l.take k ++ [l.getD k z] := by
  rw [List.take_succ_eq_append_getElem h, getD_at l z k h]
theorem drop_cons {α : Type} (l : List α) (z : α) (k : Nat) (h : k < l.length) : l.drop k = l.getD k z :: l.drop (k + 1) := by
  rw [List.drop_eq_getElem_cons h, getD_at l z k h]
theorem take_eq_succ {α : Type} {z : α} (l m : List α) (k : Nat) (hlm : l.length = m.length) (hk : k < l.length) (h : l.take k = m.take k) (hq : l.getD k z = m.getD k z) : l.take (k + 1) = m.take (k + 1) := by
  rw [take_snoc l z k hk, take_snoc m z k (by omega), h, hq]
theorem take_eq_all {α : Type} (l m : List α) (k : Nat) (hlm : l.length = m.length) (hk : l.length ≤ k) (h : l.take k = m.take k) : l = m := by
  rwa [List.take_of_length_le hk, List.take_of_length_le (by omega)] at h
theorem any_snoc {α : Type} (p : α → Bool) (l : List α) (x : α) : (l ++ [x]).any p = (l.any p || p x) := by simp

theorem entE_lt (n : Nat) (b : List En) (x : En) : entE n b x < 9 := by
  unfold entE; repeat' split
  all_goals omega
theorem dirC_lt (n : Nat) : ∀ (l b : List En), dirC n b l < 9
  | [], b => by simp [dirC]
  | x :: r, b => by
    rw [dirC]; split
    · exact entE_lt n b x
    · exact dirC_lt n r _
theorem check_lt (f : T) : check f < 9 := by
  unfold check
  have h1 := dirC_lt f.nodes.length f.dir []
  have h2 := dirC_lt f.nodes.length f.syn []
  repeat' split
  all_goals omega
/-- the rest of a directory that was looked at so far -/
theorem dirC_step (n : Nat) (l : List En) (k : Nat) (h : k < l.length) :
    dirC n (l.take k) (l.drop k) = if entE n (l.take k) (l.getD k nulE) ≠ 0 then entE n (l.take k) (l.getD k nulE) else dirC n (l.take (k + 1)) (l.drop (k + 1)) := by
  rw [drop_cons l nulE k h, dirC, ← take_snoc l nulE k h]
theorem dirC_end (n : Nat) (l : List En) : dirC n (l.take l.length) (l.drop l.length) = 0 := by rw [List.drop_length]; rfl
theorem opE_lt (o : Op) : opE o < 9 := by
  unfold opE; repeat' split
  all_goals omega
theorem doOp_lt (f : T) (o : Op) : (doOp f o).2 < 9 := by
  have h := opE_lt o
  unfold doOp; repeat' split
  all_goals first | exact h | (show (0 : Nat) < 9; omega) | (show (2 : Nat) < 9; omega) | (show (5 : Nat) < 9; omega)
theorem playF_lt : ∀ (l : List Op) (f : T), (playF f l).2 < 9
  | [], f => by simp [playF]
  | o :: r, f => by
    have h := doOp_lt f o
    rw [playF]; split
    · exact h
    · exact playF_lt r _
theorem play_lt (f : T) (l : List Op) : (play f l).2 < 9 := by
  have h := check_lt f
  have h2 := playF_lt l f
  unfold play; repeat' split
  all_goals first | exact h | exact h2 | (show (2 : Nat) < 9; omega)
theorem playF_bad : ∀ (l : List Op) (f : T), (playF f l).2 ≠ 0 → (playF f l).1 = nul
  | [], f, h => absurd rfl h
  | o :: r, f, h => by
    rw [playF] at h ⊢
    split
    · rfl
    · rename_i h2
      rw [if_neg h2] at h
      exact playF_bad r _ h
theorem play_bad (f : T) (l : List Op) (h : (play f l).2 ≠ 0) : (play f l).1 = nul := by
  unfold play at h ⊢
  split
  · rfl
  · rename_i h1
    rw [if_neg h1] at h
    split
    · rfl
    · rename_i h2
      rw [if_neg h2] at h
      exact playF_bad l f h

/-- a directory in which nothing is wrong -/
structure DirOk (n : Nat) (l : List En) : Prop where
  nm : ∀ x ∈ l, isName x.name = true
  up : l.Pairwise (fun x y => x.name < y.name)
  rg : ∀ x ∈ l, 0 ≤ x.node ∧ x.node < (n : Int)
  df : l.Pairwise (fun x y => x.node ≠ y.node)
theorem lt_all {b : List En} {x : En} (hu : b.Pairwise (fun x y => x.name < y.name)) (h : ¬ (0 < b.length ∧ ¬ (b.getD (b.length - 1) nulE).name < x.name)) : ∀ y ∈ b, y.name < x.name := by
  intro y hy
  obtain ⟨i, hi, rfl⟩ := List.mem_iff_getElem.1 hy
  have h1 : (b.getD (b.length - 1) nulE).name < x.name := Classical.byContradiction fun hh => h ⟨by omega, hh⟩
  rw [getD_at b nulE _ (by omega)] at h1
  by_cases e : i = b.length - 1
  · subst e; exact h1
  · have := (List.pairwise_iff_getElem.1 hu) i (b.length - 1) hi (by omega) (by omega)
    exact List.lt_trans this h1
theorem entE_zero {n : Nat} {b : List En} {x : En} (hb : DirOk n b) : entE n b x = 0 ↔ DirOk n (b ++ [x]) := by
  unfold entE
  constructor
  · intro h
    split at h
    · cases h
    rename_i h1
    split at h
    · cases h
    rename_i h2
    split at h
    · cases h
    rename_i h3
    split at h
    · cases h
    rename_i h4
    refine ⟨?_, ?_, ?_, ?_⟩
    · intro y hy
      rcases List.mem_append.1 hy with hy | hy
      · exact hb.nm y hy
      · rw [List.mem_singleton.1 hy]; simpa using h1
    · rw [List.pairwise_append]
      exact ⟨hb.up, List.pairwise_singleton _ _, fun y hy z hz => by rw [List.mem_singleton.1 hz]; exact lt_all hb.up h2 y hy⟩
    · intro y hy
      rcases List.mem_append.1 hy with hy | hy
      · exact hb.rg y hy
      · rw [List.mem_singleton.1 hy]; omega
    · rw [List.pairwise_append]
      refine ⟨hb.df, List.pairwise_singleton _ _, fun y hy z hz => ?_⟩
      rw [List.mem_singleton.1 hz]
      intro e
      exact h4 (List.any_eq_true.2 ⟨y, hy, by simpa using e⟩)
  · intro h
    have hx : x ∈ b ++ [x] := by simp
    rw [if_neg (by rw [h.nm x hx]; simp), if_neg, if_neg (by have := h.rg x hx; omega), if_neg]
    · intro hh
      obtain ⟨y, hy, e⟩ := List.any_eq_true.1 hh
      exact (List.pairwise_append.1 h.df).2.2 y hy x (by simp) (by simpa using e)
    · intro ⟨h1, h2⟩
      exact h2 ((List.pairwise_append.1 h.up).2.2 _ (getD_mem b nulE _ (by omega)) x (by simp))
theorem DirOk.nil (n : Nat) : DirOk n [] := ⟨by simp, List.Pairwise.nil, by simp, List.Pairwise.nil⟩
theorem DirOk.left {n : Nat} {b r : List En} (h : DirOk n (b ++ r)) : DirOk n b :=
  ⟨fun x hx => h.nm x (List.mem_append_left _ hx), (List.pairwise_append.1 h.up).1, fun x hx => h.rg x (List.mem_append_left _ hx), (List.pairwise_append.1 h.df).1⟩
theorem dirC_zero (n : Nat) : ∀ (l b : List En), DirOk n b → (dirC n b l = 0 ↔ DirOk n (b ++ l))
  | [], b, hb => by simp [dirC, hb]
  | x :: r, b, hb => by
    have h1 := entE_zero (x := x) hb
    rw [dirC]
    constructor
    · intro h
      split at h
      · rename_i h2; exact absurd h h2
      · rename_i h2
        have h3 := h1.1 (by omega)
        have := (dirC_zero n r (b ++ [x]) h3).1 h
        simpa using this
    · intro h
      have e : b ++ x :: r = (b ++ [x]) ++ r := by simp
      rw [e] at h
      have h3 := h.left
      rw [if_neg (by rw [h1.2 h3]; simp)]
      exact (dirC_zero n r (b ++ [x]) h3).2 h
theorem dirC_ok (n : Nat) (l : List En) : dirC n [] l = 0 ↔ DirOk n l := dirC_zero n l [] (DirOk.nil n)
structure Ok (f : T) : Prop where
  len : f.nodes.length ≤ 24
  small : ∀ x ∈ f.nodes, x.live.length ≤ 65536 ∧ x.syn.length ≤ 65536
  dir : DirOk f.nodes.length f.dir
  syn : DirOk f.nodes.length f.syn
  all : ∀ i, i < f.nodes.length → named f.dir f.syn (i : Int) = true
theorem check_ok (f : T) : check f = 0 ↔ Ok f := by
  unfold check
  constructor
  · intro h
    split at h
    · cases h
    rename_i h1
    split at h
    · cases h
    rename_i h2
    split at h
    · rename_i h3; exact absurd h h3
    rename_i h3
    split at h
    · rename_i h4; exact absurd h h4
    rename_i h4
    split at h
    · cases h
    rename_i h5
    refine ⟨by omega, ?_, (dirC_ok _ _).1 (by omega), (dirC_ok _ _).1 (by omega), ?_⟩
    · intro x hx
      have h2' : ¬ big x = true := fun e => h2 (List.any_eq_true.2 ⟨x, hx, e⟩)
      unfold big at h2'
      simp at h2'
      exact h2'
    · intro i hi
      have h5' : allN f = true := by simpa using h5
      unfold allN at h5'
      exact List.all_eq_true.1 h5' i (List.mem_range.2 hi)
  · intro h
    rw [if_neg (by have := h.len; omega), if_neg, if_neg (by rw [(dirC_ok _ _).2 h.dir]; simp), if_neg (by rw [(dirC_ok _ _).2 h.syn]; simp), if_neg]
    · unfold allN
      rw [List.all_eq_true.2 fun i hi => h.all i (List.mem_range.1 hi)]; simp
    · intro e
      obtain ⟨x, hx, e⟩ := List.any_eq_true.1 e
      have := h.small x hx
      unfold big at e
      simp at e
      omega
/-- so many different places below n -/
theorem nodup_len : ∀ (n : Nat) (l : List Nat), l.Nodup → (∀ i ∈ l, i < n) → l.length ≤ n
  | 0, l, _, h => by
    cases l with
    | nil => simp
    | cons x r => exact absurd (h x (by simp)) (by omega)
  | n + 1, l, hd, h => by
    have h1 := nodup_len n (l.filter (fun i => decide (i ≠ n))) (hd.filter _) (fun i hi => by
      obtain ⟨h2, h3⟩ := List.mem_filter.1 hi
      have := h i h2
      have : i ≠ n := by simpa using h3
      omega)
    have h2 : l.length = (l.filter (fun i => decide (i ≠ n))).length + (l.filter (fun i => ! decide (i ≠ n))).length := by
      clear hd h h1
      induction l with
      | nil => rfl
      | cons x r ih =>
        by_cases e : x = n
        · rw [List.filter_cons_of_neg (by simp [e]), List.filter_cons_of_pos (by simp [e]), List.length_cons, List.length_cons, ih]; omega
        · rw [List.filter_cons_of_pos (by simp [e]), List.filter_cons_of_neg (by simp [e]), List.length_cons, List.length_cons, ih]; omega
    have h3 : (l.filter (fun i => ! decide (i ≠ n))).length ≤ 1 := by
      have h4 : (l.filter (fun i => ! decide (i ≠ n))).Nodup := hd.filter _
      generalize hm : l.filter (fun i => ! decide (i ≠ n)) = m at *
      have h5 : ∀ i ∈ m, i = n := fun i hi => by
        rw [← hm] at hi
        simpa using (List.mem_filter.1 hi).2
      match m, h4, h5 with
      | [], _, _ => simp
      | [x], _, _ => simp
      | x :: y :: r, h4, h5 =>
        have e1 := h5 x (by simp)
        have e2 := h5 y (by simp)
        rw [e1, e2] at h4
        simp at h4
    omega
theorem dir_len {n : Nat} {l : List En} (h : DirOk n l) : l.length ≤ n := by
  have h1 : (l.map (fun e => e.node.toNat)).Nodup := by
    unfold List.Nodup
    rw [List.pairwise_map]
    refine List.Pairwise.imp_of_mem ?_ h.df
    intro x y hx hy hne e
    have := h.rg x hx
    have := h.rg y hy
    omega
  have := nodup_len n _ h1 (fun i hi => by
    obtain ⟨x, hx, rfl⟩ := List.mem_map.1 hi
    have := h.rg x hx
    omega)
  simpa using this
end Go.Proofs.Ytmjcdjekakaigaa.Fs
