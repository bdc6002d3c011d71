/- Plain: what is shredded is assembled as it was. -/
import Derived.Test.YtmiegikefdfaiaaShOnly2
namespace Go.Proofs.Ytmiegikefdfaiaa.Sh
set_option linter.unusedVariables false

/-- what follows begins no deeper -/
def Hd (p : Nat) (rest : List Lv) : Prop := ∀ y t, rest = y :: t → y.1 ≤ (p : Int)
theorem Hd.mono {p q : Nat} {l : List Lv} (h : Hd p l) (hq : p ≤ q) : Hd q l := fun y t e => by have := h y t e; omega
/-- a column of what is there once: its first level says rep, all others are deeper -/
def Colm (p ρ d : Nat) (l : List Lv) : Prop := ∃ x xs, l = x :: xs ∧ x.1 = (ρ : Int) ∧ (∀ y ∈ xs, (p : Int) < y.1) ∧ (∀ y ∈ l, (d : Int) ≤ y.2.1)
/-- so many times -/
def Blk (P d : Nat) : Nat → Nat → List Lv → Prop
  | _, 0, l => l = []
  | ρ, n + 1, l => ∃ a b, l = a ++ b ∧ Colm P ρ d a ∧ Blk P d P n b
theorem blk_hd {P d : Nat} : ∀ {n : Nat} {l rest : List Lv} {p : Nat}, Blk P d P n l → p ≤ P → Hd p rest → Hd P (l ++ rest)
  | 0, l, rest, p, h, hp, hr => by
    rw [show l = [] from h, List.nil_append]; exact hr.mono hp
  | n + 1, l, rest, p, h, hp, hr => by
    obtain ⟨a, b, e, ⟨x, xs, e2, e3, -, -⟩, -⟩ := h
    subst e e2
    intro y t e4
    simp only [List.cons_append] at e4
    injection e4 with e5 e6
    rw [← e5, e3]; exact Int.le_refl _
theorem blk_deep {P d : Nat} : ∀ {n : Nat} {l : List Lv} {p : Nat}, Blk P d P n l → (p < P ∨ n = 0) → ∀ y ∈ l, (p : Int) < y.1 ∧ (d : Int) ≤ y.2.1
  | 0, l, p, h, hp, y, hy => by rw [show l = [] from h] at hy; cases hy
  | n + 1, l, p, h, hp, y, hy => by
    have hp : p < P := by rcases hp with h | h; exact h; omega
    obtain ⟨a, b, e, ⟨x, xs, e2, e3, e4, e5⟩, hb⟩ := h
    subst e
    rcases List.mem_append.1 hy with hy | hy
    · refine ⟨?_, e5 y hy⟩
      subst e2
      rcases List.mem_cons.1 hy with rfl | hy
      · omega
      · have := e4 y hy; omega
    · exact blk_deep hb (Or.inl hp) y hy
theorem blk_colm {P d D p ρ n : Nat} {l : List Lv} (h : Blk P D ρ (n + 1) l) (hp : p ≤ P) (hn : p < P ∨ n = 0) (hd : d ≤ D) : Colm p ρ d l := by
  obtain ⟨a, b, e, ⟨x, xs, e2, e3, e4, e5⟩, hb⟩ := h
  subst e e2
  refine ⟨x, xs ++ b, rfl, e3, fun y hy => ?_, fun y hy => ?_⟩
  · rcases List.mem_append.1 hy with hy | hy
    · have := e4 y hy; omega
    · exact (blk_deep hb hn y hy).1
  · rw [List.cons_append] at hy
    rcases List.mem_cons.1 hy with rfl | hy
    · have := e5 y (List.mem_cons_self ..); omega
    · rcases List.mem_append.1 hy with hy | hy
      · have := e5 y (List.mem_cons_of_mem _ hy); omega
      · have := (blk_deep hb hn y hy).2; omega
theorem again_deep (P : Nat) : ∀ (xs l : List Lv), (∀ y ∈ xs, (P : Int) < y.1) → again (P : Int) (xs ++ l) = again (P : Int) l
  | [], l, h => rfl
  | x :: xs, l, h => by
    have h1 := h x (List.mem_cons_self ..)
    show (if x.1 < (P : Int) then 0 else (if x.1 = (P : Int) then 1 else 0) + again (P : Int) (xs ++ l)) = _
    rw [if_neg (by omega), if_neg (by omega), again_deep P xs l (fun y hy => h y (List.mem_cons_of_mem _ hy)), Nat.zero_add]
theorem again_blk (P d : Nat) : ∀ (n : Nat) (l rest : List Lv), Blk P d P n l → again (P : Int) rest = 0 → again (P : Int) (l ++ rest) = n
  | 0, l, rest, h, hr => by rw [show l = [] from h, List.nil_append, hr]
  | n + 1, l, rest, h, hr => by
    obtain ⟨a, b, e, ⟨x, xs, e2, e3, e4, e5⟩, hb⟩ := h
    subst e e2
    have h1 := again_blk P d n b rest hb hr
    show again (P : Int) (x :: ((xs ++ b) ++ rest)) = _
    show (if x.1 < (P : Int) then 0 else (if x.1 = (P : Int) then 1 else 0) + again (P : Int) ((xs ++ b) ++ rest)) = _
    rw [if_neg (by omega), if_pos e3, List.append_assoc, again_deep P xs _ e4, h1, Nat.add_comm]
theorem again_hd {p P : Nat} {rest : List Lv} (h : Hd p rest) (hp : p < P) : again (P : Int) rest = 0 := by
  cases rest with
  | nil => rfl
  | cons y t =>
    have := h y t rfl
    show (if y.1 < (P : Int) then 0 else _) = 0
    rw [if_pos (by omega)]

/-- what is shredded by g (in columns from c on, so many) is assembled by f as it was -/
def BK (N c m : Nat) (Q : List Lv → Prop) (p : Nat) (g : Sd → Option Sd) (f : As → Option As) : Prop :=
  ∀ ls cols ls' cols', cols.length = N → g (ls, cols) = some (ls', cols') → ∃ nums D, ls = nums ++ ls' ∧ Ext cols cols' D ∧ (∀ i, c ≤ i → i < c + m → Q (D i)) ∧ (∀ i, ¬ (c ≤ i ∧ i < c + m) → D i = []) ∧
    (∀ cols2, cols2.length = N → ∃ cols2', g (ls, cols2) = some (ls', cols2') ∧ Ext cols2 cols2' D) ∧
    ∀ lf rec, lf.length = N → rec.length + nums.length ≤ 64 → (∀ i, ∃ rest, lf.getD i [] = D i ++ rest ∧ (c ≤ i → i < c + m → Hd p rest)) → ∃ lf', f (lf, rec) = some (lf', rec ++ nums) ∧ Cons lf lf' D
theorem bk_id (N c m : Nat) (Q : List Lv → Prop) (p : Nat) (hQ : m = 0 ∨ Q []) : BK N c m Q p some some := by
  intro ls cols ls' cols' hN h
  cases h
  exact ⟨[], fun _ => [], rfl, Ext.refl _, fun i h1 h2 => by rcases hQ with h | h; omega; exact h, fun _ _ => rfl, fun cols2 _ => ⟨cols2, rfl, Ext.refl _⟩, fun lf rec _ _ _ => ⟨lf, by simp, Cons.refl _⟩⟩
theorem BK.weaken {N c m p : Nat} {Q Q' : List Lv → Prop} {g : Sd → Option Sd} {f : As → Option As} (h : BK N c m Q p g f) (hQ : ∀ l, Q l → Q' l) : BK N c m Q' p g f := by
  intro ls cols ls' cols' hN hg
  obtain ⟨nums, D, h1, h2, h3, h4⟩ := h ls cols ls' cols' hN hg
  exact ⟨nums, D, h1, h2, fun i a b => hQ _ (h3 i a b), h4⟩
/-- one behind the other, in other columns -/
theorem BK.side {N c m1 m2 p : Nat} {Q : List Lv → Prop} {g g' : Sd → Option Sd} {f f' : As → Option As} (h : BK N c m1 Q p g f) (k : BK N (c + m1) m2 Q p g' f') : BK N c (m1 + m2) Q p (fun st => (g st).bind g') (fun st => (f st).bind f') := by
  intro ls cols ls' cols' hN hg
  cases hx : g (ls, cols) with
  | none => simp only [hx] at hg; cases hg
  | some st =>
    obtain ⟨l1, c1⟩ := st
    simp only [hx, Option.bind_some] at hg
    obtain ⟨n1, D1, e1, E1, q1, z1, p1, b1⟩ := h ls cols l1 c1 hN hx
    obtain ⟨n2, D2, e2, E2, q2, z2, p2, b2⟩ := k l1 c1 ls' cols' (E1.1.trans hN) hg
    refine ⟨n1 ++ n2, fun i => D1 i ++ D2 i, by rw [e1, e2, List.append_assoc], E1.trans E2, fun i h1 h2 => ?_, fun i hi => ?_, fun cols2 h2 => ?_, fun lf rec hl hr hc => ?_⟩
    · by_cases hi : i < c + m1
      · show Q (D1 i ++ D2 i)
        rw [z2 i (by omega), List.append_nil]; exact q1 i h1 hi
      · show Q (D1 i ++ D2 i)
        rw [z1 i (by omega), List.nil_append]; exact q2 i (by omega) (by omega)
    · show D1 i ++ D2 i = []
      rw [z1 i (by omega), z2 i (by omega)]; rfl
    · obtain ⟨x1, a1, y1⟩ := p1 cols2 h2
      obtain ⟨x2, a2, y2⟩ := p2 x1 (y1.1.trans h2)
      exact ⟨x2, by simp only [a1, Option.bind_some, a2], y1.trans y2⟩
    · rw [List.length_append] at hr
      obtain ⟨lf1, a1, y1⟩ := b1 lf rec hl (by omega) (fun i => by
        obtain ⟨rest, r1, r2⟩ := hc i
        refine ⟨D2 i ++ rest, by rw [r1, List.append_assoc], fun h1 h2 => ?_⟩
        rw [z2 i (by omega), List.nil_append]; exact r2 h1 (by omega))
      obtain ⟨lf2, a2, y2⟩ := b2 lf1 (rec ++ n1) (y1.1.trans hl) (by rw [List.length_append]; omega) (fun i => by
        obtain ⟨rest, r1, r2⟩ := hc i
        refine ⟨rest, ?_, fun h1 h2 => r2 (by omega) (by omega)⟩
        have := y1.2 i
        rw [r1, List.append_assoc] at this
        exact (List.append_cancel_left this).symm)
      exact ⟨lf2, by simp only [a1, Option.bind_some, a2, List.append_assoc], y1.trans y2⟩
/-- so many times, in the same columns -/
theorem bk_times (N c m P p d : Nat) (hp : p ≤ P) (g : Nat → Sd → Option Sd) (f : Nat → As → Option As) (h : ∀ ρ, BK N c m (Colm P ρ d) P (g ρ) (f ρ)) :
    ∀ (n ρ : Nat), BK N c m (Blk P d ρ n) p (times g n ρ P) (times f n ρ P)
  | 0, ρ => bk_id N c m _ p (Or.inr rfl)
  | n + 1, ρ => by
    have k := bk_times N c m P p d hp g f h n P
    intro ls cols ls' cols' hN hg
    change (g ρ (ls, cols)).bind (times g n P P) = _ at hg
    cases hx : g ρ (ls, cols) with
    | none => rw [hx] at hg; cases hg
    | some st =>
      obtain ⟨l1, c1⟩ := st
      rw [hx] at hg
      simp only [Option.bind_some] at hg
      obtain ⟨n1, D1, e1, E1, q1, z1, p1, b1⟩ := h ρ ls cols l1 c1 hN hx
      obtain ⟨n2, D2, e2, E2, q2, z2, p2, b2⟩ := k l1 c1 ls' cols' (E1.1.trans hN) hg
      refine ⟨n1 ++ n2, fun i => D1 i ++ D2 i, by rw [e1, e2, List.append_assoc], E1.trans E2, fun i h1 h2 => ⟨D1 i, D2 i, rfl, q1 i h1 h2, q2 i h1 h2⟩, fun i hi => ?_, fun cols2 h2 => ?_, fun lf rec hl hr hc => ?_⟩
      · show D1 i ++ D2 i = []
        rw [z1 i hi, z2 i hi]; rfl
      · obtain ⟨x1, a1, y1⟩ := p1 cols2 h2
        obtain ⟨x2, a2, y2⟩ := p2 x1 (y1.1.trans h2)
        refine ⟨x2, ?_, y1.trans y2⟩
        show (g ρ (ls, cols2)).bind (times g n P P) = _
        rw [a1]; exact a2
      · rw [List.length_append] at hr
        obtain ⟨lf1, a1, y1⟩ := b1 lf rec hl (by omega) (fun i => by
          obtain ⟨rest, r1, r2⟩ := hc i
          refine ⟨D2 i ++ rest, by rw [r1, List.append_assoc], fun h1 h2 => blk_hd (q2 i h1 h2) hp (r2 h1 h2)⟩)
        obtain ⟨lf2, a2, y2⟩ := b2 lf1 (rec ++ n1) (y1.1.trans hl) (by rw [List.length_append]; omega) (fun i => by
          obtain ⟨rest, r1, r2⟩ := hc i
          refine ⟨rest, ?_, r2⟩
          have := y1.2 i
          rw [r1, List.append_assoc] at this
          exact (List.append_cancel_left this).symm)
        refine ⟨lf2, ?_, y1.trans y2⟩
        show (f ρ (lf, rec)).bind (times f n P P) = _
        rw [a1]; simp only [Option.bind_some, a2, List.append_assoc]
theorem asPut_ok {rec : List Nat} {n : Nat} (h : rec.length + 1 ≤ 64) : asPut rec n = some (rec ++ [n]) := by unfold asPut; rw [if_neg (by omega)]
theorem bk_level (N c ρ d P p : Nat) (there : Bool) (hc : c < N) : BK N c 1 (Colm P ρ d) p (fun st => sdLevel st c ρ d there) (fun st => asLevel st c ρ d there) := by
  have key : ∀ (n : Nat) (lf : List (List Lv)) (rest : List Lv), lf.length = N → lf.getD c [] = at1 c ((ρ : Int), (d : Int), n) c ++ rest → Cons lf (lf.set c rest) (at1 c ((ρ : Int), (d : Int), n)) ∧ lf.getD c [] = ((ρ : Int), (d : Int), n) :: rest := by
    intro n lf rest hl h
    have e : at1 c ((ρ : Int), (d : Int), n) c = [((ρ : Int), (d : Int), n)] := by unfold at1; rw [if_pos rfl]
    rw [e] at h
    exact ⟨cons_set lf c _ rest (by omega) h, h⟩
  have hq : ∀ (n : Nat) i, c ≤ i → i < c + 1 → Colm P ρ d (at1 c ((ρ : Int), (d : Int), n) i) := by
    intro n i h1 h2
    obtain rfl : i = c := by omega
    unfold at1
    rw [if_pos rfl]
    exact ⟨_, [], rfl, rfl, (fun y hy => (by cases hy)), (fun y hy => (by simp at hy; rw [hy]; exact Int.le_refl _))⟩
  have hz : ∀ (n : Nat) i, ¬ (c ≤ i ∧ i < c + 1) → at1 c ((ρ : Int), (d : Int), n) i = [] := by
    intro n i h
    unfold at1
    rw [if_neg (by omega)]
  intro ls cols ls' cols' hN hg
  cases there with
  | false =>
    cases hg
    refine ⟨[], at1 c ((ρ : Int), (d : Int), 0), rfl, ext_push _ _ _ (by omega), hq 0, hz 0, fun cols2 h2 => ⟨_, rfl, ext_push _ _ _ (by omega)⟩, fun lf rec hl hr hcc => ?_⟩
    obtain ⟨rest, r1, -⟩ := hcc c
    obtain ⟨k1, k2⟩ := key 0 lf rest hl r1
    refine ⟨lf.set c rest, ?_, k1⟩
    unfold asLevel
    simp only [k2]
    simp
  | true =>
    cases ls with
    | nil => cases hg
    | cons n t =>
      cases hg
      refine ⟨[n], at1 c ((ρ : Int), (d : Int), n), rfl, ext_push _ _ _ (by omega), hq n, hz n, fun cols2 h2 => ⟨_, rfl, ext_push _ _ _ (by omega)⟩, fun lf rec hl hr hcc => ?_⟩
      obtain ⟨rest, r1, -⟩ := hcc c
      obtain ⟨k1, k2⟩ := key n lf rest hl r1
      refine ⟨lf.set c rest, ?_, k1⟩
      unfold asLevel
      simp only [k2]
      simp [asPut_ok (n := n) (show rec.length + 1 ≤ 64 by simpa using hr)]
theorem bk_nulls (N ρ d P p : Nat) : ∀ (m c : Nat), c + m ≤ N → BK N c m (Colm P ρ d) p (nulls sdLevel m c ρ d) (nulls asLevel m c ρ d)
  | 0, c, h => bk_id N c 0 _ p (Or.inl rfl)
  | m + 1, c, h => by
    have h1 := BK.side (bk_level N c ρ d P p false (by omega)) (bk_nulls N ρ d P p m (c + 1) (by omega))
    rw [show 1 + m = m + 1 by omega] at h1
    exact h1

theorem seen_zero {lf : List (List Lv)} {r D P c : Nat} {x : Lv} {t : List Lv} (h : lf.getD c [] = x :: t) (hx : x.2.1 < (D : Int)) : asSeen lf r D P c = some 0 := by
  unfold asSeen
  simp only [h]
  rw [if_pos hx]
/-- a field that need not be there -/
theorem bk_often (N r k_ c d p ρ : Nat) (hr : r = 1 ∨ r = 2) (hm : 0 < k_) (hc : c + k_ ≤ N) (g : Nat → Sd → Option Sd) (f : Nat → As → Option As)
    (h0 : BK N c k_ (Colm p ρ d) p (g 0) (f 0)) (h0d : ∀ ls cols st, cols.length = N → g 0 (ls, cols) = some st → ∀ D, Ext cols st.2 D → ∃ n, D c = [((ρ : Int), (d : Int), n)])
    (h : ∀ n, BK N c k_ (Blk (rn r p) (d + 1) ρ (n + 1)) p (g (n + 1)) (f (n + 1))) :
    BK N c k_ (Colm p ρ d) p (fun st => (sdOften st r (d + 1) (rn r p) c).bind fun x => g x.1 x.2) (fun st => (asOften st r (d + 1) (rn r p) c).bind fun x => f x.1 x.2) := by
  have hpP : p ≤ rn r p := by unfold rn; split <;> omega
  intro ls cols ls' cols' hN hg
  cases ls with
  | nil => cases hg
  | cons m t =>
    have hs : sdOften (m :: t, cols) r (d + 1) (rn r p) c = if r = 1 ∧ 1 < m then none else some (m, (t, cols)) := rfl
    simp only [hs] at hg
    by_cases hbad : r = 1 ∧ 1 < m
    · rw [if_pos hbad] at hg; cases hg
    rw [if_neg hbad] at hg
    simp only [Option.bind_some] at hg
    have hs2 : ∀ cols2, sdOften (m :: t, cols2) r (d + 1) (rn r p) c = some (m, (t, cols2)) := fun cols2 => by
      show (if r = 1 ∧ 1 < m then none else some (m, (t, cols2))) = _
      rw [if_neg hbad]
    cases m with
    | zero =>
      obtain ⟨nums, D, e1, E1, q1, z1, p1, b1⟩ := h0 t cols ls' cols' hN hg
      obtain ⟨n0, hn0⟩ := h0d t cols (ls', cols') hN hg D E1
      refine ⟨0 :: nums, D, by rw [e1]; rfl, E1, q1, z1, fun cols2 h2 => ?_, fun lf rec hl hrr hcc => ?_⟩
      · obtain ⟨x, a1, y1⟩ := p1 cols2 h2
        exact ⟨x, by simp only [hs2, Option.bind_some, a1], y1⟩
      · rw [List.length_cons] at hrr
        obtain ⟨lf', a1, y1⟩ := b1 lf (rec ++ [0]) hl (by rw [List.length_append]; simp; omega) hcc
        refine ⟨lf', ?_, y1⟩
        obtain ⟨rest, r1, -⟩ := hcc c
        rw [hn0] at r1
        have hse : asSeen lf r (d + 1) (rn r p) c = some 0 := seen_zero (x := ((ρ : Int), (d : Int), n0)) (t := rest) (by rw [r1]; rfl) (by show (d : Int) < ((d + 1 : Nat) : Int); omega)
        unfold asOften
        simp only [hse, Option.bind_some, asPut_ok (show rec.length + 1 ≤ 64 by omega), Option.map_some, a1, List.append_assoc]
        rfl
    | succ m =>
      obtain ⟨nums, D, e1, E1, q1, z1, p1, b1⟩ := h m t cols ls' cols' hN hg
      have hmp : p < rn r p ∨ m = 0 := by
        rcases hr with h1 | h2
        · right
          have : ¬ 1 < m + 1 := fun h => hbad ⟨h1, h⟩
          omega
        · left; unfold rn; rw [if_pos h2]; omega
      refine ⟨(m + 1) :: nums, D, by rw [e1]; rfl, E1, fun i a b => blk_colm (q1 i a b) hpP hmp (by omega), z1, fun cols2 h2 => ?_, fun lf rec hl hrr hcc => ?_⟩
      · obtain ⟨x, a1, y1⟩ := p1 cols2 h2
        exact ⟨x, by simp only [hs2, Option.bind_some, a1], y1⟩
      · rw [List.length_cons] at hrr
        obtain ⟨lf', a1, y1⟩ := b1 lf (rec ++ [m + 1]) hl (by rw [List.length_append]; simp; omega) hcc
        refine ⟨lf', ?_, y1⟩
        obtain ⟨rest, r1, r2⟩ := hcc c
        obtain ⟨a, b, eD, ⟨x, xs, ea, ex, exs, ed⟩, hb⟩ := q1 c (Nat.le_refl _) (by omega)
        have hlf : lf.getD c [] = x :: (xs ++ (b ++ rest)) := by rw [r1, eD, ea]; simp
        have hdx := ed x (by rw [ea]; exact List.mem_cons_self ..)
        have hse : asSeen lf r (d + 1) (rn r p) c = some (m + 1) := by
          unfold asSeen
          simp only [hlf]
          rw [if_neg (by omega)]
          rcases hr with h1 | h2
          · rw [if_pos h1]
            have : ¬ 1 < m + 1 := fun h => hbad ⟨h1, h⟩
            congr 1; omega
          · rw [if_neg (by omega)]
            have hP : rn r p = p + 1 := by unfold rn; rw [if_pos h2]
            have ha : again ((rn r p : Nat) : Int) (b ++ rest) = m := again_blk _ _ m b rest hb (again_hd (r2 (Nat.le_refl _) (by omega)) (by omega))
            rw [again_deep _ xs _ exs, ha]
            congr 1; omega
        unfold asOften
        simp only [hse, Option.bind_some, asPut_ok (show rec.length + 1 ≤ 64 by omega), Option.map_some, a1, List.append_assoc]
        rfl
theorem nulls_at (ρ d : Nat) : ∀ (m c : Nat) (ls : List Nat) (cols : List (List Lv)) (st : Sd), c + m ≤ cols.length → nulls sdLevel m c ρ d (ls, cols) = some st → 0 < m → st.2.getD c [] = cols.getD c [] ++ [((ρ : Int), (d : Int), 0)]
  | 0, c, ls, cols, st, hc, h, h0 => absurd h0 (Nat.lt_irrefl _)
  | m + 1, c, ls, cols, st, hc, h, h0 => by
    have key : ∀ (m c' : Nat) (cols : List (List Lv)) (st : Sd), c < c' → c' + m ≤ cols.length → nulls sdLevel m c' ρ d (ls, cols) = some st → st.2.getD c [] = cols.getD c [] := by
      intro m
      induction m with
      | zero => intro c' cols st _ _ h; cases h; rfl
      | succ m ih =>
        intro c' cols st h1 h2 h3
        have h4 : nulls sdLevel m (c' + 1) ρ d (ls, push cols c' ((ρ : Int), (d : Int), 0)) = some st := h3
        have := ih (c' + 1) _ st (by omega) (by rw [push_length]; omega) h4
        rw [this, push_get _ _ _ (by omega), if_neg (by omega)]
    have h4 : nulls sdLevel m (c + 1) ρ d (ls, push cols c ((ρ : Int), (d : Int), 0)) = some st := h
    rw [key m (c + 1) _ st (by omega) (by rw [push_length]; omega) h4, push_get _ _ _ (by omega), if_pos rfl]
theorem bk_ext {N c m p : Nat} {Q : List Lv → Prop} {g g' : Sd → Option Sd} {f f' : As → Option As} (h : BK N c m Q p g f) (hg : ∀ st, g' st = g st) (hf : ∀ st, f' st = f st) : BK N c m Q p g' f' := by
  have e1 : g' = g := funext hg
  have e2 : f' = f := funext hf
  rw [e1, e2]; exact h
/-- fields side by side -/
theorem bk_al (N : Nat) : ∀ (F : F) (d p c rep : Nat), ok F → c + leaves F ≤ N → BK N c (leaves F) (Colm p rep d) p (al sdW F d p c rep) (al asW F d p c rep)
  | .nil, d, p, c, rep, ho, h => bk_id N c 0 _ p (Or.inl rfl)
  | .cons r k s, d, p, c, rep, ho, h => by
    rw [leaves_cons] at h ⊢
    have hl0 : 0 < lv1 k := lv1_pos k
    have hb : ∀ ρ, BK N c (lv1 k) (Colm (rn r p) ρ (dn r d)) (rn r p) (body sdW k (dn r d) (rn r p) c ρ) (body asW k (dn r d) (rn r p) c ρ) := fun ρ => by
      cases k with
      | nil => exact bk_ext (bk_level N c ρ (dn r d) (rn r p) (rn r p) true (by omega)) (fun st => body_nil _ _ _ _ _ st) (fun st => body_nil _ _ _ _ _ st)
      | cons r' k' s' => exact bk_al N (.cons r' k' s') (dn r d) (rn r p) c ρ ho.2.2.1 (by
          have : lv1 (.cons r' k' s') = leaves (.cons r' k' s') := rfl
          omega)
    have hpP : p ≤ rn r p := by unfold rn; split <;> omega
    have ht : ∀ n ρ, BK N c (lv1 k) (Blk (rn r p) (dn r d) ρ n) p (times (body sdW k (dn r d) (rn r p) c) n ρ (rn r p)) (times (body asW k (dn r d) (rn r p) c) n ρ (rn r p)) := fun n ρ => bk_times N c (lv1 k) (rn r p) p (dn r d) hpP _ _ hb n ρ
    have h1 : BK N c (lv1 k) (Colm p rep d) p (al1 sdW r k d p c rep) (al1 asW r k d p c rep) := by
      by_cases h0 : r = 0
      · subst h0
        exact bk_ext ((ht 1 rep).weaken (fun l hl => blk_colm (n := 0) hl (Nat.le_refl _) (Or.inr rfl) (Nat.le_refl _))) (fun st => al1_req sdW k d p c rep st) (fun st => al1_req asW k d p c rep st)
      · have hr2 : r ≤ 2 := ho.1
        have hD : dn r d = d + 1 := by unfold dn; rw [if_neg h0]
        have hz : BK N c (lv1 k) (Colm p rep d) p (nulls sdLevel (lv1 k) c rep d) (nulls asLevel (lv1 k) c rep d) := bk_nulls N rep d p p (lv1 k) c (by omega)
        have hof := bk_often N r (lv1 k) c d p rep (by omega) hl0 (by omega)
          (fun m st => (if m = 0 then nulls sdLevel (lv1 k) c rep d st else some st).bind (times (body sdW k (dn r d) (rn r p) c) m rep (rn r p)))
          (fun m st => (if m = 0 then nulls asLevel (lv1 k) c rep d st else some st).bind (times (body asW k (dn r d) (rn r p) c) m rep (rn r p)))
          (bk_ext hz (fun st => by simp only [if_true]; exact bind_id _) (fun st => by simp only [if_true]; exact bind_id _))
          (fun ls cols st hN hg D hE => by
            have hg2 : nulls sdLevel (lv1 k) c rep d (ls, cols) = some st := by
              have h9 : (nulls sdLevel (lv1 k) c rep d (ls, cols)).bind some = some st := hg
              rw [bind_id] at h9; exact h9
            have h3 := nulls_at rep d (lv1 k) c ls cols st (by omega) hg2 hl0
            rw [hE.2] at h3
            exact ⟨0, List.append_cancel_left h3⟩)
          (fun n => by
            have h2 := ht (n + 1) rep
            rw [hD] at h2
            refine bk_ext h2 (fun st => ?_) (fun st => ?_)
            · simp only [Nat.succ_ne_zero, if_false, Option.bind_some]; rw [hD]
            · simp only [Nat.succ_ne_zero, if_false, Option.bind_some]; rw [hD])
        rw [← hD] at hof
        refine bk_ext hof (fun st => ?_) (fun st => ?_)
        · unfold al1; rw [if_neg h0]; rfl
        · unfold al1; rw [if_neg h0]; rfl
    exact BK.side h1 (bk_al N s d p (c + lv1 k) rep ho.2.2.2 (by omega))
end Go.Proofs.Ytmiegikefdfaiaa.Sh
