/- ShJ5, ShJ6, ShJ7. -/
import Derived.Test.YtjfkoledbegpfaaShJx
/- Plain: how long what is joined is, and how great its numbers. -/
namespace Go.Proofs.Ytjfkoledbegpfaa
open Sh (Lv lsum cut jAll jOne jIn jal jal_cons isNil)
namespace Sh
set_option linter.unusedVariables false

theorem cut_all_sum (P : Int) (l : List Lv) : ((cut P l).map List.length).sum = l.length := by
  have := cut_sum P l l.length (Nat.le_refl _)
  rwa [List.take_length] at this
theorem sum_range_getD : ∀ (L : List (List Lv)), ((List.range L.length).map fun k => (L.getD k []).length).sum = (L.map List.length).sum
  | [] => rfl
  | x :: t => by
    rw [List.length_cons, List.range_succ_eq_map, List.map_cons, List.map_map, List.sum_cons, List.map_cons, List.sum_cons, ← sum_range_getD t]
    rfl
theorem sum_add {f g : Nat → Nat} : ∀ (l : List Nat), (l.map fun k => f k + g k).sum = (l.map f).sum + (l.map g).sum
  | [] => rfl
  | x :: t => by
    simp only [List.map_cons, List.sum_cons, sum_add t]; omega
theorem sum_zero : ∀ (l : List Nat), (l.map fun _ => 0).sum = 0
  | [] => rfl
  | _ :: t => by simp only [List.map_cons, List.sum_cons, sum_zero t]
theorem mem_le_sum : ∀ (l : List Nat) (x : Nat), x ∈ l → x ≤ l.sum
  | [], x, h => by cases h
  | y :: t, x, h => by
    rw [List.sum_cons]
    rcases List.mem_cons.1 h with rfl | h
    · omega
    · have := mem_le_sum t x h; omega
theorem parts_sum (P : Int) (m : Nat) : ∀ (cols : List (List Lv)), (∀ c ∈ cols, (cut P c).length = m) → ((List.range m).map fun k => lsum (cols.map fun c => (cut P c).getD k [])).sum = lsum cols
  | [], _ => by
    simp only [List.map_nil, lsum, List.sum_nil]
    exact sum_zero _
  | c :: t, h => by
    have h1 := parts_sum P m t (fun x hx => h x (List.mem_cons_of_mem _ hx))
    have h2 := h c (List.mem_cons_self ..)
    have e : ∀ k, lsum ((c :: t).map fun c => (cut P c).getD k []) = ((cut P c).getD k []).length + lsum (t.map fun c => (cut P c).getD k []) := fun k => by simp [lsum]
    simp only [e]
    rw [sum_add, h1]
    subst h2
    rw [sum_range_getD, cut_all_sum]
    simp [lsum]
theorem cutAll_sum {P : Int} {cols : List (List Lv)} {parts : List (List (List Lv))} (h : cutAll P cols = some parts) : (parts.map lsum).sum = lsum cols ∧ ∀ p ∈ parts, p.length = cols.length := by
  unfold cutAll at h
  split at h
  · rename_i hc
    have e := Option.some.inj h
    subst e
    refine ⟨?_, fun p hp => ?_⟩
    · rw [List.map_map]
      exact parts_sum P _ cols hc
    · obtain ⟨k, _, rfl⟩ := List.mem_map.1 hp
      rw [List.length_map]
  · cases h
/-- parts have no other levels than the columns -/
theorem cut_mem (P : Int) : ∀ (l : List Lv) (out : List (List Lv)) (p : List Lv) (x : Lv), p ∈ l.foldl (cStep P) out → x ∈ p → x ∈ l ∨ ∃ q ∈ out, x ∈ q
  | [], out, p, x, hp, hx => Or.inr ⟨p, hp, hx⟩
  | y :: t, out, p, x, hp, hx => by
    rcases cut_mem P t (cStep P out y) p x hp hx with h | ⟨q, hq, h⟩
    · exact Or.inl (List.mem_cons_of_mem _ h)
    · unfold cStep at hq
      split at hq
      · rcases List.mem_append.1 hq with hq | hq
        · exact Or.inr ⟨q, hq, h⟩
        · rw [List.mem_singleton.1 hq] at h
          rw [List.mem_singleton.1 h]; exact Or.inl (List.mem_cons_self ..)
      · rename_i hn
        have hne : out ≠ [] := fun e => hn (Or.inl e)
        rcases List.mem_append.1 hq with hq | hq
        · exact Or.inr ⟨q, List.dropLast_subset _ hq, h⟩
        · rw [List.mem_singleton.1 hq] at h
          rcases List.mem_append.1 h with h | h
          · refine Or.inr ⟨out.getLast hne, List.getLast_mem hne, ?_⟩
            rwa [List.getLastD_eq_getLast?, List.getLast?_eq_some_getLast hne] at h
          · rw [List.mem_singleton.1 h]; exact Or.inl (List.mem_cons_self ..)
theorem cutAll_mem {P : Int} {cols : List (List Lv)} {parts : List (List (List Lv))} (h : cutAll P cols = some parts) {Q : Lv → Prop} (hq : ∀ c ∈ cols, ∀ x ∈ c, Q x) : ∀ p ∈ parts, ∀ c ∈ p, ∀ x ∈ c, Q x := by
  unfold cutAll at h
  split at h
  · have e := Option.some.inj h
    subst e
    intro p hp c hc x hx
    obtain ⟨k, _, rfl⟩ := List.mem_map.1 hp
    obtain ⟨c0, h0, rfl⟩ := List.mem_map.1 hc
    by_cases hk : k < (cut P c0).length
    · have hm : (cut P c0).getD k [] ∈ cut P c0 := by
        simp only [List.getD, List.getElem?_eq_getElem hk, Option.getD_some]; exact List.getElem_mem hk
      rcases cut_mem P c0 [] _ x hm hx with h | ⟨q, hq2, _⟩
      · exact hq c0 h0 x h
      · cases hq2
    · have : (cut P c0).getD k [] = [] := by simp only [List.getD, List.getElem?_eq_none (Nat.le_of_not_lt hk)]; rfl
      rw [this] at hx; cases hx
  · cases h
theorem jAll_len {f : List (List Lv) → Option (List Nat)} {c : Nat} : ∀ (parts : List (List (List Lv))) (l : List Nat), (∀ p ∈ parts, ∀ a, f p = some a → a.length ≤ c * lsum p) → jAll f parts = some l → l.length ≤ c * (parts.map lsum).sum
  | [], l, _, h => by cases h; exact Nat.zero_le _
  | p :: t, l, hf, h => by
    unfold jAll at h
    cases h1 : f p with
    | none => rw [h1] at h; cases h
    | some a =>
      cases h2 : jAll f t with
      | none => rw [h1, h2] at h; cases h
      | some b =>
        rw [h1, h2] at h
        have e := Option.some.inj h
        subst e
        have q1 := hf p (List.mem_cons_self ..) a h1
        have q2 := jAll_len t b (fun x hx => hf x (List.mem_cons_of_mem _ hx)) h2
        rw [List.length_append, List.map_cons, List.sum_cons, Nat.mul_add]; omega
theorem jAll_mem {f : List (List Lv) → Option (List Nat)} {Q : Nat → Prop} : ∀ (parts : List (List (List Lv))) (l : List Nat), (∀ p ∈ parts, ∀ a, f p = some a → ∀ n ∈ a, Q n) → jAll f parts = some l → ∀ n ∈ l, Q n
  | [], l, _, h => by cases h; simp
  | p :: t, l, hf, h => by
    unfold jAll at h
    cases h1 : f p with
    | none => rw [h1] at h; cases h
    | some a =>
      cases h2 : jAll f t with
      | none => rw [h1, h2] at h; cases h
      | some b =>
        rw [h1, h2] at h
        have e := Option.some.inj h
        subst e
        intro n hn
        rcases List.mem_append.1 hn with hn | hn
        · exact hf p (List.mem_cons_self ..) a h1 n hn
        · exact jAll_mem t b (fun x hx => hf x (List.mem_cons_of_mem _ hx)) h2 n hn
theorem lsum_pos {cols : List (List Lv)} (h0 : 0 < cols.length) (h : ¬ ∃ c ∈ cols, c = []) : 1 ≤ lsum cols := by
  cases cols with
  | nil => simp at h0
  | cons c t =>
    cases c with
    | nil => exact absurd ⟨[], List.mem_cons_self .., rfl⟩ h
    | cons x y => simp [lsum]; omega
theorem cut_cnt (P : Int) (l : List Lv) : (cut P l).length ≤ l.length := by
  have := cut_ne P l l.length (Nat.le_refl _)
  rwa [List.take_length] at this
theorem parts_cnt {P : Int} {cols : List (List Lv)} {parts : List (List (List Lv))} (h : cutAll P cols = some parts) : parts.length ≤ lsum cols := by
  unfold cutAll at h
  split at h
  · have e := Option.some.inj h
    subst e
    rw [List.length_map, List.length_range]
    cases cols with
    | nil => simp [cut]
    | cons c t =>
      have := cut_cnt P c
      simp [lsum]
      omega
  · cases h
theorem jOne_len {f : Nat → Nat → List (List Lv) → Option (List Nat)} {c n r p d : Nat} {cols : List (List Lv)} {l : List Nat} (hf : ∀ P D cs a, cs.length = n → f P D cs = some a → a.length ≤ c * lsum cs) (hn : 0 < n) (hc : cols.length = n) (h : jOne f r p d cols = some l) : l.length ≤ (c + 1) * lsum cols := by
  unfold jOne at h
  split at h
  · have := hf p d cols l hc h
    rw [Nat.add_mul]; omega
  · split at h
    · cases h
    · rename_i h2
      have h1 := lsum_pos (by omega) h2
      have hbig : 1 ≤ (c + 1) * lsum cols := Nat.le_trans h1 (Nat.le_mul_of_pos_left _ (by omega))
      split at h
      · cases h; exact hbig
      · have key : ∀ parts, (parts.map lsum).sum = lsum cols → (∀ p ∈ parts, List.length p = cols.length) → ∀ b, jAll (f (rn r p) (d + 1)) parts = some b → b.length ≤ c * lsum cols := fun parts h3 h4 b hb => by
          rw [← h3]
          exact jAll_len parts b (fun q hq a ha => hf _ _ q a (by rw [h4 q hq]; exact hc) ha) hb
        have fin : ∀ parts b, (parts.map lsum).sum = lsum cols → (∀ p ∈ parts, List.length p = cols.length) → jAll (f (rn r p) (d + 1)) parts = some b → (parts.length :: b).length ≤ (c + 1) * lsum cols := fun parts b h3 h4 hb => by
          have := key parts h3 h4 b hb
          rw [Nat.add_mul, List.length_cons]; omega
        split at h
        · cases hcu : cutAll ((p + 1 : Nat) : Int) cols with
          | none => rw [hcu] at h; cases h
          | some parts =>
            rw [hcu] at h
            simp only [Option.bind_some] at h
            cases hj : jAll (f (rn r p) (d + 1)) parts with
            | none => rw [hj] at h; cases h
            | some b =>
              rw [hj] at h
              cases h
              exact fin parts b (cutAll_sum hcu).1 (cutAll_sum hcu).2 hj
        · simp only [Option.bind_some] at h
          cases hj : jAll (f (rn r p) (d + 1)) [cols] with
          | none => rw [hj] at h; cases h
          | some b =>
            rw [hj] at h
            cases h
            exact fin [cols] b (by simp) (by simp) hj
theorem jOne_mem {f : Nat → Nat → List (List Lv) → Option (List Nat)} {n r p d M : Nat} {cols : List (List Lv)} {l : List Nat} (hf : ∀ P D cs a, cs.length = n → (∀ c ∈ cs, ∀ x ∈ c, x.2.2 < M) → lsum cs < M → f P D cs = some a → ∀ n ∈ a, n < M) (hM : 1 < M) (hc : cols.length = n) (hx : ∀ c ∈ cols, ∀ x ∈ c, x.2.2 < M) (hs : lsum cols < M) (h : jOne f r p d cols = some l) : ∀ n ∈ l, n < M := by
  have hle : ∀ parts : List (List (List Lv)), (parts.map lsum).sum = lsum cols → ∀ p ∈ parts, lsum p ≤ lsum cols := fun parts e p hp => by
    rw [← e]
    exact mem_le_sum _ _ (List.mem_map_of_mem hp)
  unfold jOne at h
  split at h
  · exact hf p d cols l hc hx hs h
  · split at h
    · cases h
    · split at h
      · cases h; intro n hn; rw [List.mem_singleton.1 hn]; omega
      · split at h
        · cases hcu : cutAll ((p + 1 : Nat) : Int) cols with
          | none => rw [hcu] at h; cases h
          | some parts =>
            rw [hcu] at h
            simp only [Option.bind_some] at h
            cases hj : jAll (f (rn r p) (d + 1)) parts with
            | none => rw [hj] at h; cases h
            | some b =>
              rw [hj] at h
              cases h
              have hcs := cutAll_sum hcu
              intro n hn
              rcases List.mem_cons.1 hn with rfl | hn
              · have := parts_cnt hcu; omega
              · exact jAll_mem parts b (fun q hq a ha => hf _ _ q a (by rw [hcs.2 q hq]; exact hc) (cutAll_mem hcu hx q hq) (by have := hle parts hcs.1 q hq; omega) ha) hj n hn
        · simp only [Option.bind_some] at h
          cases hj : jAll (f (rn r p) (d + 1)) [cols] with
          | none => rw [hj] at h; cases h
          | some b =>
            rw [hj] at h
            cases h
            intro n hn
            rcases List.mem_cons.1 hn with rfl | hn
            · simpa using hM
            · exact jAll_mem [cols] b (fun q hq a ha => by rw [List.mem_singleton.1 hq] at ha; exact hf _ _ cols a hc hx hs ha) hj n hn
theorem lsum_take_drop (cols : List (List Lv)) (n : Nat) : lsum (cols.take n) + lsum (cols.drop n) = lsum cols := by
  unfold lsum
  rw [← List.sum_append, ← List.map_append, List.take_append_drop]
theorem jIn_leaf {cs : List (List Lv)} {l : List Nat} (h : (match cs.headD [] with | [x] => some [x.2.2] | _ => none) = some l) : ∃ x t, cs = [x] :: t ∧ l = [x.2.2] := by
  cases cs with
  | nil => cases h
  | cons c t =>
    match c, h with
    | [x], h => cases h; exact ⟨x, t, rfl, rfl⟩
    | [], h => cases h
    | _ :: _ :: _, h => cases h
theorem jal_len : ∀ (F : F) (p d : Nat) (cols : List (List Lv)) (l : List Nat), cols.length = leaves F → jal F p d cols = some l → l.length ≤ (size F + 1) * lsum cols
  | .nil, p, d, cols, l, hc, h => by cases h; exact Nat.zero_le _
  | .cons r k s, p, d, cols, l, hc, h => by
    rw [leaves_cons] at hc
    have hl0 := lv1_pos k
    rw [jal_cons] at h
    cases h1 : jOne (jIn k) r p d (cols.take (lv1 k)) with
    | none => rw [h1] at h; cases h
    | some a =>
      cases h2 : jal s p d (cols.drop (lv1 k)) with
      | none => rw [h1, h2] at h; cases h
      | some b =>
        rw [h1, h2] at h
        cases h
        have hf : ∀ P D cs a, cs.length = lv1 k → jIn k P D cs = some a → a.length ≤ (size k + 1) * lsum cs := fun P D cs a hcs ha => by
          cases k with
          | nil =>
            obtain ⟨x, t, rfl, rfl⟩ := jIn_leaf ha
            simp [lsum, size]
          | cons r' k' s' => exact jal_len (.cons r' k' s') P D cs a hcs ha
        have q1 := jOne_len hf hl0 (show (cols.take (lv1 k)).length = lv1 k by rw [List.length_take]; omega) h1
        have q2 := jal_len s p d (cols.drop (lv1 k)) b (by rw [List.length_drop]; omega) h2
        have q3 := lsum_take_drop cols (lv1 k)
        rw [List.length_append, ← q3, Nat.mul_add]
        have e : size (.cons r k s) = 1 + size k + size s := rfl
        have m1 : (size k + 1 + 1) * lsum (cols.take (lv1 k)) ≤ (size (.cons r k s) + 1) * lsum (cols.take (lv1 k)) := Nat.mul_le_mul_right _ (by omega)
        have m2 : (size s + 1) * lsum (cols.drop (lv1 k)) ≤ (size (.cons r k s) + 1) * lsum (cols.drop (lv1 k)) := Nat.mul_le_mul_right _ (by omega)
        omega
theorem jIn_len (k : F) (P D : Nat) (cs : List (List Lv)) (l : List Nat) (hc : cs.length = lv1 k) (h : jIn k P D cs = some l) : l.length ≤ (size k + 1) * lsum cs := by
  cases k with
  | nil =>
    obtain ⟨x, t, rfl, rfl⟩ := jIn_leaf h
    simp [lsum, size]
  | cons r' k' s' => exact jal_len (.cons r' k' s') P D cs l hc h
theorem jal_mem (M : Nat) (hM : 1 < M) : ∀ (F : F) (p d : Nat) (cols : List (List Lv)) (l : List Nat), cols.length = leaves F → (∀ c ∈ cols, ∀ x ∈ c, x.2.2 < M) → lsum cols < M → jal F p d cols = some l → ∀ n ∈ l, n < M
  | .nil, p, d, cols, l, hc, _, _, h => by cases h; simp
  | .cons r k s, p, d, cols, l, hc, hx, hs, h => by
    rw [leaves_cons] at hc
    rw [jal_cons] at h
    cases h1 : jOne (jIn k) r p d (cols.take (lv1 k)) with
    | none => rw [h1] at h; cases h
    | some a =>
      cases h2 : jal s p d (cols.drop (lv1 k)) with
      | none => rw [h1, h2] at h; cases h
      | some b =>
        rw [h1, h2] at h
        cases h
        have hf : ∀ P D cs a, cs.length = lv1 k → (∀ c ∈ cs, ∀ x ∈ c, x.2.2 < M) → lsum cs < M → jIn k P D cs = some a → ∀ n ∈ a, n < M := fun P D cs a hcs hxx hss ha => by
          cases k with
          | nil =>
            obtain ⟨x, t, rfl, rfl⟩ := jIn_leaf ha
            intro n hn
            rw [List.mem_singleton.1 hn]
            exact hxx [x] (List.mem_cons_self ..) x (List.mem_cons_self ..)
          | cons r' k' s' => exact jal_mem M hM (.cons r' k' s') P D cs a hcs hxx hss ha
        have q3 := lsum_take_drop cols (lv1 k)
        intro n hn
        rcases List.mem_append.1 hn with hn | hn
        · exact jOne_mem hf hM (show (cols.take (lv1 k)).length = lv1 k by rw [List.length_take]; omega) (fun c hc => hx c (List.mem_of_mem_take hc)) (by omega) h1 n hn
        · exact jal_mem M hM s p d (cols.drop (lv1 k)) b (by rw [List.length_drop]; omega) (fun c hc => hx c (List.mem_of_mem_drop hc)) (by omega) h2 n hn
theorem jIn_mem (M : Nat) (hM : 1 < M) (k : F) (P D : Nat) (cs : List (List Lv)) (l : List Nat) (hc : cs.length = lv1 k) (hx : ∀ c ∈ cs, ∀ x ∈ c, x.2.2 < M) (hs : lsum cs < M) (h : jIn k P D cs = some l) : ∀ n ∈ l, n < M := by
  cases k with
  | nil =>
    obtain ⟨x, t, rfl, rfl⟩ := jIn_leaf h
    intro n hn
    rw [List.mem_singleton.1 hn]
    exact hx [x] (List.mem_cons_self ..) x (List.mem_cons_self ..)
  | cons r' k' s' => exact jal_mem M hM (.cons r' k' s') P D cs l hc hx hs h
end Sh
end Go.Proofs.Ytjfkoledbegpfaa
/- Words and contracts for hypostyleref.joinInner and joinField. -/
namespace Go.Proofs.Ytjfkoledbegpfaa
open Go.RowKit
open Sh (Lv lsum cutAll jAll jOne jIn jal)
set_option linter.unusedVariables false

/-- numbers in a row of one's own, or none -/
def JPost (w : World) (R : Option (List Nat)) (e : Ending) (w' : World) : Prop :=
  Below w.heap.size w w' ∧ match R with
  | none => e = .returned (.tuple #[.slice none 0 0, .bool false])
  | some l => ∃ A n cp, e = .returned (.tuple #[.slice A n cp, .bool true]) ∧ n = l.length ∧ NumRow w.heap.size l (.slice A n cp) w'
theorem numRow_src {B n cp : Nat} {xs : List Nat} {A : Option Addr} {w : World} (h : NumRow B xs (.slice A n cp) w) : Nums w w.heap.size A xs ∧ (A = none → cp = 0) := by
  have h' := h
  unfold NumRow at h
  obtain ⟨a, c, e, hn⟩ := numRow_nums h'
  injection e with x1 x2 x3
  subst x1
  refine ⟨hn, fun e => ?_⟩
  subst e
  rcases h.2 with ⟨e1, -⟩ | ⟨g, cap, cur, e1, -⟩
  · injection e1
  · injection e1 with y1; cases y1
theorem COut.room {w : World} {B n : Nat} {v : Value} {D : List (List Lv)} (h : COut w B v n D) : ∃ A cp, v = .slice A n cp ∧ n ≤ cp ∧ cp ≤ maxLen := by
  obtain ⟨h1, vs, h2, h3⟩ := h
  rcases h2.2 with ⟨rfl, h0⟩ | ⟨g, cap, cur, rfl, e2, e3, e4, e5, -⟩
  · exact ⟨none, 0, by rw [h0], by omega, by unfold maxLen; omega⟩
  · exact ⟨_, _, rfl, e4, e5⟩
/-- rows of columns that can be read -/
def PRows (w : World) (A : Option Addr) (parts : List (List (List Lv))) : Prop :=
  ∀ i, i < parts.length → ∃ pb aa c, A = some ⟨pb, 0, none⟩ ∧ pb < w.heap.size ∧ w.cell? ⟨pb, i, none⟩ = some (.slice aa (parts.getD i []).length c) ∧ LRows w w.heap.size aa (parts.getD i []) ∧ (parts.getD i []).length ≤ c ∧ c ≤ maxLen
theorem PRows.next {w w' : World} {A : Option Addr} {parts : List (List (List Lv))} (h : PRows w A parts) (hb : Below w.heap.size w w') : PRows w' A parts := by
  intro i hi
  obtain ⟨pb, aa, c, h1, h2, h3, h4, h5⟩ := h i hi
  exact ⟨pb, aa, c, h1, Nat.lt_of_lt_of_le h2 hb.size, (hb.cell (p := ⟨pb, i, none⟩) h2).trans h3, h4.next hb, h5⟩
theorem prows_one {w : World} {pb : Nat} {ca : Option Addr} {L ccap : Nat} {cs : List (List Lv)} (hb : w.heap[pb]? = some (.cells #[.slice ca L ccap] 27 (0, 0))) (hu : LRows w w.heap.size ca cs) (hl : cs.length = L) (h1 : L ≤ ccap) (h2 : ccap ≤ maxLen) : PRows w (some ⟨pb, 0, none⟩) [cs] := by
  intro i hi
  obtain rfl : i = 0 := by simp at hi; omega
  exact ⟨pb, ca, ccap, rfl, lt_of_block hb, by rw [show ([cs] : List (List (List Lv))).getD 0 [] = cs from rfl, hl]; exact cell_of_one hb, hu, by rw [show ([cs] : List (List (List Lv))).getD 0 [] = cs from rfl, hl]; exact h1, h2⟩
theorem col_mem (l : List (List Lv)) (q : Nat) : l.getD q [] = [] ∨ l.getD q [] ∈ l := by
  by_cases hq : q < l.length
  · exact Or.inr (by rw [show l.getD q [] = l[q] by simp [List.getD, List.getElem?_eq_getElem hq]]; exact List.getElem_mem hq)
  · exact Or.inl (by simp only [List.getD, List.getElem?_eq_none (show l.length ≤ q by omega)]; rfl)
theorem CA3.prows {w : World} {B m cp : Nat} {A : Option Addr} {G : List (List (List Lv))} {X : Option Nat} (h : CA3 w B (.slice A m cp) m G X) (hok : ∀ p ∈ G, ∀ c ∈ p, ∀ x ∈ c, lvOk x) : PRows w A G := by
  intro i hi
  obtain ⟨C, y, rfl, -, hC, hcell, -, -, -, ho, -⟩ := h.at (k := i) (by rw [← h.1]; exact hi)
  obtain ⟨aa, c, rfl, h1, h2⟩ := ho.room
  refine ⟨C, aa, c, rfl, hC, hcell, ho.rows (fun q x hx => ?_), h1, h2⟩
  have hp : G.getD i [] ∈ G := by rw [show G.getD i [] = G[i] by simp [List.getD, List.getElem?_eq_getElem hi]]; exact List.getElem_mem hi
  rcases col_mem (G.getD i []) q with h0 | h0
  · rw [h0] at hx; cases hx
  · exact hok _ hp _ h0 x hx
theorem LRows.oks {w : World} {B : Nat} {a : Option Addr} {l : List (List Lv)} (h : LRows w B a l) : ∀ c ∈ l, ∀ x ∈ c, lvOk x := by
  intro c hc x hx
  obtain ⟨i, hi, rfl⟩ := List.mem_iff_getElem.1 hc
  have := (h.lt i).2
  rw [show l.getD i [] = l[i] by simp [List.getD, List.getElem?_eq_getElem hi]] at this
  exact this x hx

theorem jAll_drop {f : List (List Lv) → Option (List Nat)} {parts : List (List (List Lv))} {i : Nat} (hi : i < parts.length) : jAll f (parts.drop i) = (f (parts.getD i [])).bind fun a => (jAll f (parts.drop (i + 1))).bind fun b => some (a ++ b) := by
  rw [List.drop_eq_getElem_cons hi, show parts.getD i [] = parts[i] by simp [List.getD, List.getElem?_eq_getElem hi]]; rfl
theorem jAll_round {f : List (List Lv) → Option (List Nat)} {parts : List (List (List Lv))} {i : Nat} {acc : List Nat} {R : Option (List Nat)} (hi : i < parts.length) (h : R = (jAll f (parts.drop i)).bind fun b => some (acc ++ b)) :
    (f (parts.getD i []) = none → R = none) ∧ ∀ a, f (parts.getD i []) = some a → R = (jAll f (parts.drop (i + 1))).bind fun b => some ((acc ++ a) ++ b) := by
  rw [jAll_drop hi] at h
  refine ⟨fun e => by rw [h, e]; rfl, fun a e => ?_⟩
  rw [h, e]
  simp only [Option.bind_some]
  cases jAll f (parts.drop (i + 1)) with
  | none => rfl
  | some y => simp only [Option.bind_some, List.append_assoc]
theorem jAll_end {f : List (List Lv) → Option (List Nat)} {parts : List (List (List Lv))} {acc : List Nat} {R : Option (List Nat)} (h : R = (jAll f (parts.drop parts.length)).bind fun b => some (acc ++ b)) : R = some acc := by
  rw [h, List.drop_length]
  show some (acc ++ []) = _
  rw [List.append_nil]
theorem sum_drop (parts : List (List (List Lv))) {i : Nat} (hi : i < parts.length) : ((parts.drop i).map lsum).sum = lsum (parts.getD i []) + ((parts.drop (i + 1)).map lsum).sum := by
  rw [List.drop_eq_getElem_cons hi, show parts.getD i [] = parts[i] by simp [List.getD, List.getElem?_eq_getElem hi], List.map_cons, List.sum_cons]
theorem lsum_at (cs : List (List Lv)) (i : Nat) : (cs.getD i []).length ≤ lsum cs := by
  by_cases hi : i < cs.length
  · refine Sh.mem_le_sum _ _ (List.mem_map.2 ⟨cs.getD i [], ?_, rfl⟩)
    rw [show cs.getD i [] = cs[i] by simp [List.getD, List.getElem?_eq_getElem hi]]; exact List.getElem_mem hi
  · rw [show cs.getD i [] = [] by simp only [List.getD, List.getElem?_eq_none (show cs.length ≤ i by omega)]; rfl]; exact Nat.zero_le _
theorem jOne_cases {f : Nat → Nat → List (List Lv) → Option (List Nat)} {r p d : Nat} {cs : List (List Lv)} (hr : r ≠ 0) (hc : 0 < cs.length) :
    (∀ i, i < cs.length → (cs.getD i []).length = 0 → jOne f r p d cs = none) ∧ ((∀ i, i < cs.length → (cs.getD i []).length ≠ 0) → ((((cs.getD 0 []).getD 0 (0, 0, 0)).2.1 ≤ (d : Int) → jOne f r p d cs = some [0]) ∧
      (¬ ((cs.getD 0 []).getD 0 (0, 0, 0)).2.1 ≤ (d : Int) → jOne f r p d cs = (if r = 2 then cutAll ((p + 1 : Nat) : Int) cs else some [cs]).bind fun parts => (jAll (f (rn r p) (d + 1)) parts).bind fun l => some (parts.length :: l)))) := by
  have e0 : cs.getD 0 [] = cs.headD [] := by cases cs <;> rfl
  have e1 : (cs.getD 0 []).getD 0 (0, 0, 0) = (cs.headD []).headD (0, 0, 0) := by rw [e0]; cases cs.headD [] <;> rfl
  rw [e1]
  refine ⟨fun i hi h => ?_, fun h => ?_⟩
  · unfold jOne
    rw [if_neg hr, if_pos]
    refine ⟨cs.getD i [], ?_, List.eq_nil_of_length_eq_zero h⟩
    rw [show cs.getD i [] = cs[i] by simp [List.getD, List.getElem?_eq_getElem hi]]; exact List.getElem_mem hi
  · have hne : ¬ ∃ c ∈ cs, c = [] := by
      rintro ⟨c, hc, rfl⟩
      obtain ⟨i, hi, e⟩ := List.mem_iff_getElem.1 hc
      exact h i hi (by rw [show cs.getD i [] = cs[i] by simp [List.getD, List.getElem?_eq_getElem hi], e]; rfl)
    refine ⟨fun h2 => ?_, fun h2 => ?_⟩
    · unfold jOne
      rw [if_neg hr, if_neg hne, if_pos h2]
    · unfold jOne
      rw [if_neg hr, if_neg hne, if_neg h2]

def JInnerC (k : Sh.F) : Prop := ∀ (r D P b off cap B : Nat) (ca : Option Addr) (ccap : Nat) (cs : List (List Lv)) (w : World), Fds w B (some ⟨b, off, none⟩) (Sh.flat (.cons r k .nil)) → B ≤ w.heap.size → 1 + Sh.size k ≤ cap → cap ≤ maxLen → D + Sh.size k ≤ 900 → P + Sh.size k ≤ 900 → Sh.ok (.cons r k .nil) →
  cs.length = lv1 k → lv1 k ≤ ccap → ccap ≤ maxLen → lsum cs ≤ 1048576 → LRows w w.heap.size ca cs →
  Calls Try.prog 37 #[.slice (some ⟨b, off, none⟩) (1 + Sh.size k) cap, .slice ca (lv1 k) ccap, .int .i64 (P : Nat), .int .i64 (D : Nat)] w (JPost w (jIn k P D cs))
def JFieldC (k : Sh.F) : Prop := ∀ (r d p b off cap B : Nat) (ca : Option Addr) (ccap : Nat) (cs : List (List Lv)) (w : World), Fds w B (some ⟨b, off, none⟩) (Sh.flat (.cons r k .nil)) → B ≤ w.heap.size → 1 + Sh.size k ≤ cap → cap ≤ maxLen → d + Sh.size k + 1 ≤ 900 → p + Sh.size k + 1 ≤ 900 → Sh.ok (.cons r k .nil) →
  cs.length = lv1 k → lv1 k ≤ ccap → ccap ≤ maxLen → lsum cs ≤ 1048576 → LRows w w.heap.size ca cs →
  Calls Try.prog 46 #[.slice (some ⟨b, off, none⟩) (1 + Sh.size k) cap, .slice ca (lv1 k) ccap, .int .i64 (p : Nat), .int .i64 (d : Nat)] w (JPost w (jOne (jIn k) r p d cs))
end Go.Proofs.Ytjfkoledbegpfaa
/- hypostyleref.joinField's walk out of joinInner's. -/
namespace Go.Proofs.Ytjfkoledbegpfaa
open Go.RowKit
open Sh (Lv lsum cutAll jAll jOne jIn jal)
set_option linter.unusedVariables false

set_option maxHeartbeats 4000000 in
set_option maxRecDepth 100000 in
theorem jfield_of (k : Sh.F) (HI : JInnerC k) : JFieldC k := by
  intro r d p b off cap B ca ccap cs w hu hB hc hcm hd hp hok hcl hcc hccm hls hrw
  obtain ⟨bb, oo, e0, hbl, hcell⟩ := hu (by simp [Sh.flat])
  obtain ⟨rfl, rfl⟩ : b = bb ∧ off = oo := by cases e0; exact ⟨rfl, rfl⟩
  obtain ⟨h0, -⟩ := hcell 0 (by simp [Sh.flat])
  rw [show (Sh.flat (.cons r k .nil)).getD 0 Sh.fd0 = ((r : Int), (Sh.len k : Int)) from rfl, Nat.zero_mul, Nat.add_zero] at h0
  simp only at h0
  have HR0 := Lib.hid (fun W (hb : Below w.heap.size w W) => show W.cell? ⟨b, off, none⟩ = some (.int .i64 (r : Int)) from (hb.cell (p := ⟨b, off, none⟩) (show b < w.heap.size by omega)).trans h0)
  have HCI := Lib.hid (fun (D P : Nat) ca ccap (cs : List (List Lv)) W (hb : Below w.heap.size w W) (hD : D + Sh.size k ≤ 900) (hP : P + Sh.size k ≤ 900) (a1 : cs.length = lv1 k) (a2 : lv1 k ≤ ccap) (a3 : ccap ≤ maxLen) (a4 : lsum cs ≤ 1048576) (a5 : LRows W W.heap.size ca cs) => HI r D P b off cap B ca ccap cs W (hu.below (hb.mono hB)) (Nat.le_trans hB hb.size) hc hcm hD hP hok a1 a2 a3 a4 a5)
  have HRW := Lib.hid (fun W (hb : Below w.heap.size w W) => hrw.next hb)
  have HJL := Lib.hid (fun P D (x : List (List Lv)) a (hx : x.length = lv1 k) h => Sh.jIn_len k P D x a hx h)
  have hl1 : 0 < lv1 k := lv1_pos k
  have hlv : lv1 k ≤ 1 + Sh.size k := by
    have := Sh.leaves_le (.cons r k .nil)
    rw [leaves_cons] at this
    have e : Sh.size (.cons r k .nil) = 1 + Sh.size k + 0 := rfl
    have e2 : Sh.leaves .nil = 0 := rfl
    omega
  have hr2 : r ≤ 2 := hok.1
  have HCL := Lib.hid hcl
  have HLS := Lib.hid hls
  have HKD := Lib.hid (show d + Sh.size k + 1 ≤ 900 ∧ p + Sh.size k + 1 ≤ 900 from ⟨hd, hp⟩)
  have HCC := Lib.hid hccm
  have HS9 := Lib.hid (show Sh.size k + 1 ≤ 901 by omega)
  generalize jIn k = f at *
  generalize Sh.size k = SK at *
  obtain ⟨L, hL⟩ : ∃ L, L = lv1 k := ⟨_, rfl⟩
  rw [← hL] at hcl hcc hl1 hlv HCI HCL HJL ⊢
  obtain ⟨LF, hLF⟩ : ∃ LF, LF = 1 + SK := ⟨_, rfl⟩
  rw [← hLF] at hc hlv HCI ⊢
  have hLF1 : 1 ≤ LF := by omega
  have hcm2 := hcm
  unfold maxLen at hcm2
  have hccm2 := hccm
  unfold maxLen at hccm2
  have hd9 : d ≤ 900 := by omega
  have hp9 : p ≤ 900 := by omega
  have hL9 : L ≤ 1000 := by omega
  clear HI e0 hcell h0 hu hok hd hp hL hLF hlv hls hcm hccm
  have c0 := HR0.out w (Below.refl _ _)
  by_cases hr0 : r = 0
  · subst hr0
    have HC := Lib.hid (HCI.out d p ca ccap cs w (Below.refl _ _) (by have := HKD.out; omega) (by have := HKD.out; omega) hcl hcc HCC.out HLS.out hrw)
    rw [show jOne f 0 p d cs = f p d cs from if_pos rfl]
    generalize f p d cs = R at *
    clear hrw hcl
    go_enter Try.func46, Try.ntmps46
    go_wp2_with fail
    refine (HC.out).mono ?_
    rintro e w1 ⟨hb1, hm1⟩
    have HB1 := Lib.hid hb1
    clear hb1
    cases R with
    | none =>
      obtain rfl := hm1
      go_wp2_with fail
      exact bodyPost_ret (v := .tuple #[.slice none 0 0, .bool false]) (by simp [results, Try.results46, go_sem]) rfl ⟨HB1.out, rfl⟩
    | some l =>
      obtain ⟨A, n, cp, rfl, hn, hrow⟩ := hm1
      have HX := Lib.hid hrow
      have HN := Lib.hid hn
      clear hrow hn
      go_wp2_with fail
      exact bodyPost_ret (v := .tuple #[.slice A n cp, .bool true]) (by simp [results, Try.results46, go_sem]) rfl ⟨HB1.out, A, n, cp, rfl, HN.out, HX.out⟩
  have hr1 : ((r : Int) == 0) = false := by rw [beq_eq_false_iff_ne]; omega
  have HJ := Lib.hid (jOne_cases (f := f) (r := r) (p := p) (d := d) (cs := cs) hr0 (by omega))
  have HRD := Lib.hid (fun i (hi : i < L) W (hb : Below w.heap.size w W) => show ∃ b2 off2 aa cap2, ca = some ⟨b2, off2, none⟩ ∧ W.cell? ⟨b2, off2 + i, none⟩ = some (.slice aa (cs.getD i []).length cap2) ∧ Lvs W W.heap.size aa (cs.getD i []) by
    obtain ⟨b2, off2, aa, cap2, e1, e2, e3, e4, -⟩ := (HRW.out W hb).at (i := i) (by have := HCL.out; omega)
    exact ⟨b2, off2, aa, cap2, e1, e3, e4⟩)
  obtain ⟨b2, off2, hca⟩ : ∃ b2 off2, ca = some ⟨b2, off2, none⟩ := by
    obtain ⟨b2, off2, aa, cap2, e1, -⟩ := HRD.out 0 hl1 w (Below.refl _ _)
    exact ⟨b2, off2, e1⟩
  subst hca
  have HRD := Lib.hid (fun i (hi : i < L) W (hb : Below w.heap.size w W) => show ∃ aa cap2, W.cell? ⟨b2, off2 + i, none⟩ = some (.slice aa (cs.getD i []).length cap2) ∧ Lvs W W.heap.size aa (cs.getD i []) by
    obtain ⟨b3, off3, aa, cap2, e1, e3, e4⟩ := HRD.out i hi W hb
    injection e1 with e1
    injection e1 with x1 x2
    subst x1
    subst x2
    exact ⟨aa, cap2, e3, e4⟩)
  generalize jOne f r p d cs = R at *
  clear hrw hcl
  rcases (show r = 1 ∨ r = 2 by omega) with rfl | rfl
  · clear hr0 hr2
    go_enter Try.func46, Try.ntmps46
    go_wp2_with fail
    go_loopw [10] (fun v wr => ∃ j : Nat, j ≤ L ∧ v = .int .i64 j ∧ Below w.heap.size w wr ∧ Hid (∀ q, q < j → (cs.getD q []).length ≠ 0)) (fun v _ => L - (intOf v).toNat)
    case atStart => exact ⟨0, Nat.zero_le _, rfl, Below.refl _ _, Lib.hid (fun q hq => absurd hq (Nat.not_lt_zero _))⟩
    case round =>
      obtain ⟨j, hj, rfl, hbw, HE⟩ := hrel
      rename World => wr
      by_cases hlt : j < L
      · have hjI : (j : Int) < (L : Int) := by omega
        obtain ⟨aa, cap2, k0, -⟩ := HRD.out j hlt wr hbw
        obtain ⟨ll, hll⟩ : ∃ n, n = (cs.getD j []).length := ⟨_, rfl⟩
        rw [← hll] at k0
        have HLL := Lib.hid hll
        have HBW := Lib.hid hbw
        clear hll hbw
        by_cases hz : ll = 0
        · subst hz
          have HRN := Lib.hid (HJ.out.1 j (by have := HCL.out; omega) HLL.out.symm)
          go_wp2_with fail
          refine bodyPost_ret (v := .tuple #[.slice none 0 0, .bool false]) (by simp [results, Try.results46, go_sem]) rfl ⟨HBW.out, ?_⟩
          rw [HRN.out]
        · have hzI : ((ll : Int) == 0) = false := by rw [beq_eq_false_iff_ne]; omega
          have HE2 := Lib.hid (show ∀ q, q < j + 1 → (cs.getD q []).length ≠ 0 from fun q hq => by
            by_cases h : q < j
            · exact HE.out q h
            · obtain rfl : q = j := by omega
              rw [← HLL.out]; exact hz)
          clear hz
          go_wp2_with fail
          exact ⟨⟨j + 1, by omega, by go_num, HBW.out, HE2⟩, by simp [intOf]; omega⟩
      · obtain rfl : j = L := by omega
        have hjI : ¬ (j : Int) < (j : Int) := by omega
        have HE2 := Lib.hid (HJ.out.2 (fun i hi => HE.out i (by have := HCL.out; omega)))
        obtain ⟨aa, cap2, k0, hlvs⟩ := HRD.out 0 hl1 wr hbw
        rw [Nat.add_zero] at k0
        have hne0 := HE.out 0 hl1
        obtain ⟨b3, off3, rfl, hb3, hlv⟩ := hlvs (fun e => hne0 (by rw [e]; rfl))
        have hl0 : 0 < (cs.getD 0 []).length := by omega
        have k1 := (hlv 0 hl0).2.1
        rw [Nat.zero_mul, Nat.add_zero] at k1
        obtain ⟨ll, hll⟩ : ∃ n, n = (cs.getD 0 []).length := ⟨_, rfl⟩
        rw [← hll] at k0 hl0
        have HBW := Lib.hid hbw
        generalize ((cs.getD 0 []).getD 0 (0, 0, 0)).2.1 = df at *
        clear hlvs hlv hne0 hll HE hbw
        by_cases hlow : df ≤ (d : Int)
        · have HRL := Lib.hid (HE2.out.1 hlow)
          have HBN := Lib.hid (HBW.out.alloc HBW.out.size (.cells #[.int .u64 0] 41))
          have HRR := Lib.hid (show NumRow w.heap.size [0] (.slice (some ⟨wr.heap.size, 0, none⟩) 1 1) (wr.alloc (.cells #[.int .u64 0] 41)) from World.ownsRow_lit (base := w.heap.size) (e := 41) (size := 1) wr #[.int .u64 0] 1 HBW.out.size (by decide) rfl)
          go_wp2_with fail
          refine bodyPost_ret (v := .tuple #[.slice (some ⟨wr.heap.size, 0, none⟩) 1 1, .bool true]) (by simp [results, Try.results46, go_sem]) rfl ⟨HBN.out, ?_⟩
          rw [HRL.out]
          exact ⟨_, _, _, rfl, rfl, HRR.out⟩
        · have HRL := Lib.hid (HE2.out.2 (by first | exact hlow | exact Int.not_le.1 hlow))
          have c1 := HR0.out (wr.alloc (.cells #[.slice (some ⟨b2, off2, none⟩) j ccap] 27)) (HBW.out.alloc HBW.out.size _)
          have HB2 := Lib.hid (HBW.out.alloc HBW.out.size (.cells #[.slice (some ⟨b2, off2, none⟩) j ccap] 27))
          have HPR := Lib.hid (prows_one (heap_alloc_new wr (.cells #[.slice (some ⟨b2, off2, none⟩) j ccap] 27)) (HRW.out _ HB2.out) HCL.out hcc HCC.out)
          clear HE2
          obtain ⟨parts, hparts⟩ : ∃ x, x = ([cs] : List (List (List Lv))) := ⟨_, rfl⟩
          rw [← hparts] at HPR
          have HLN := Lib.hid (show ∀ x ∈ parts, x.length = j by rw [hparts]; intro x hx; rw [List.mem_singleton.1 hx]; exact HCL.out)
          have HSM := Lib.hid (show (parts.map lsum).sum = lsum cs by rw [hparts]; simp)
          have HRJ := Lib.hid (show R = (jAll (f p (d + 1)) parts).bind fun l => some (parts.length :: l) by rw [hparts, HRL.out]; rfl)
          have HM := Lib.hid (show 1 = parts.length by rw [hparts]; rfl)
          have HR3 := Lib.hid (show NumRow (wr.alloc (.cells #[.slice (some ⟨b2, off2, none⟩) j ccap] 27)).heap.size [1] (.slice (some ⟨wr.heap.size + 1, 0, none⟩) 1 1) ((wr.alloc (.cells #[.slice (some ⟨b2, off2, none⟩) j ccap] 27)).alloc (.cells #[.int .u64 1] 41)) by
            rw [← show (wr.alloc (.cells #[.slice (some ⟨b2, off2, none⟩) j ccap] 27)).heap.size = wr.heap.size + 1 by simp]
            exact World.ownsRow_lit (base := (wr.alloc (.cells #[.slice (some ⟨b2, off2, none⟩) j ccap] 27)).heap.size) (e := 41) (size := 1) (wr.alloc (.cells #[.slice (some ⟨b2, off2, none⟩) j ccap] 27)) #[.int .u64 1] 1 (Nat.le_refl _) (by decide) rfl)
          clear hparts HRL
          go_wp2_with fail
          go_loopw [14, 15, 16, 17] (fun v14 v15 _ _ wr2 => ∃ (i n : Nat) (A : Option Addr) (cp : Nat) (acc : List Nat), i ≤ 1 ∧ v15 = .int .i64 i ∧ v14 = .slice A n cp ∧ Below (wr.alloc (.cells #[.slice (some ⟨b2, off2, none⟩) j ccap] 27)).heap.size (wr.alloc (.cells #[.slice (some ⟨b2, off2, none⟩) j ccap] 27)) wr2 ∧ Hid (n = acc.length) ∧ Hid (NumRow (wr.alloc (.cells #[.slice (some ⟨b2, off2, none⟩) j ccap] 27)).heap.size acc (.slice A n cp) wr2) ∧ Hid (acc.length + (SK + 1) * ((parts.drop i).map lsum).sum ≤ 1 + (SK + 1) * lsum cs) ∧ Hid (R = (jAll (f p (d + 1)) (parts.drop i)).bind fun b => some (acc ++ b))) (fun _ v15 _ _ _ => 1 - (intOf v15).toNat)
          case atStart => exact ⟨0, 1, _, 1, [1], Nat.zero_le _, rfl, rfl, (Below.refl _ _).alloc (Nat.le_refl _) _, Lib.hid rfl, HR3, Lib.hid (by rw [List.drop_zero, HSM.out]; exact Nat.le_refl _), Lib.hid (by rw [List.drop_zero, HRJ.out, ← HM.out]; rfl)⟩
          case round =>
            obtain ⟨i, n, A, cp, acc, hi, rfl, rfl, hbw2, HN, HNR, HBD, HRI⟩ := hrel
            rename World => wr2
            by_cases hlt2 : i < 1
            · have hiI : (i : Int) < (1 : Int) := by omega
              have hip : i < parts.length := by rw [← HM.out]; exact hlt2
              obtain ⟨pb, aa, c, hPA, hpb, kp, hlr, hac, hcm9⟩ := (HPR.out.next hbw2) i hip
              have hmem : parts.getD i [] ∈ parts := by rw [show parts.getD i [] = parts[i] by simp [List.getD, List.getElem?_eq_getElem hip]]; exact List.getElem_mem hip
              have hxl := HLN.out _ hmem
              rw [hxl] at kp hac
              have HSD := Lib.hid (sum_drop parts hip)
              have hxs : lsum (parts.getD i []) ≤ lsum cs := by rw [← HSM.out]; exact Sh.mem_le_sum _ _ (List.mem_map_of_mem hmem)
              have HBW2 := Lib.hid (HB2.out.trans (hbw2.mono HB2.out.size))
              have cc := HR0.out wr2 HBW2.out
              have HC := Lib.hid (HCI.out (d + 1) p aa c (parts.getD i []) wr2 HBW2.out (by have := HKD.out; omega) (by have := HKD.out; omega) hxl hac hcm9 (by have := HLS.out; omega) hlr)
              have HRR := Lib.hid (jAll_round hip HRI.out)
              have HLEN := Lib.hid (fun a h => HJL.out p (d + 1) (parts.getD i []) a hxl h)
              have hcm8 := hcm9
              unfold maxLen at hcm8
              injection hPA with hPA
              injection hPA with hpe
              subst hpe
              have HBL := Lib.hid hbw2
              generalize f p (d + 1) (parts.getD i []) = X at *
              clear hip hmem hxl hxs hlr hcm9 hbw2
              go_wp2_with fail
              refine (HC.out).mono ?_
              rintro e w3 ⟨hb3, hm3⟩
              cases X with
              | none =>
                obtain rfl := hm3
                have HRN := Lib.hid (HRR.out.1 rfl)
                have HB3 := Lib.hid (below_then HBW2.out hb3)
                clear hb3
                go_wp2_with fail
                refine bodyPost_ret (v := .tuple #[.slice none 0 0, .bool false]) (by simp [results, Try.results46, go_sem]) rfl ⟨HB3.out, ?_⟩
                rw [HRN.out]
              | some a =>
                obtain ⟨A3, n3, cp3, rfl, hn3, hr3⟩ := hm3
                have HRN := Lib.hid (HRR.out.2 a rfl)
                obtain ⟨hsrc, hnil⟩ := numRow_src hr3
                have hown := row_below HNR.out hb3
                rw [← HN.out] at hown
                have HB3 := Lib.hid (HBL.out.trans (hb3.mono HBL.out.size))
                have hsz := HB3.out.size
                have HBD2 := Lib.hid (show (acc ++ a).length + (SK + 1) * ((parts.drop (i + 1)).map lsum).sum ≤ 1 + (SK + 1) * lsum cs by
                  have h1 := HBD.out
                  have h2 := HLEN.out a rfl
                  rw [HSD.out, Nat.mul_add] at h1
                  rw [List.length_append]
                  omega)
                have hbytes : (n + n3) * 8 ≤ 140737488355328 := by
                  have h1 := HBD2.out
                  rw [List.length_append] at h1
                  have h2 : (SK + 1) * lsum cs ≤ 901 * 1048576 := Nat.mul_le_mul HS9.out HLS.out
                  have := HN.out
                  omega
                have hn3' := hn3.symm
                clear hn3 hr3 hb3 HLEN HRR
                go_wp2_with (at_builtin; refine wpList_append_nums rfl (.tmp 93) (.tmp 94) rfl (wr.alloc (.cells #[.slice (some ⟨b2, off2, none⟩) j ccap] 27)).heap.size _ n _ rfl hown A3 n3 cp3 a hn3' rfl hnil hsrc hbytes hsz ?_; intro v' w4 hown4 hgrow4)
                have HB4 := Lib.hid (HB3.out.grown hgrow4 hsz (fun k hk => (hown.lt k hk).1))
                have hr4 : NumRow (wr.alloc (.cells #[.slice (some ⟨b2, off2, none⟩) j ccap] 27)).heap.size (acc ++ a) v' w4 := by
                  unfold NumRow
                  rw [List.length_append, ← HN.out, hn3', show nv (acc ++ a) = nv acc ++ nv a by simp [nv]]
                  exact hown4
                obtain ⟨A4, cp4, rfl, -⟩ := numRow_nums hr4
                obtain ⟨n4, hn4⟩ : ∃ n, n = (acc ++ a).length := ⟨_, rfl⟩
                rw [← hn4] at hr4 ⊢
                have HR4 := Lib.hid hr4
                have HN4 := Lib.hid hn4
                clear hown hown4 hgrow4 hr4 hn4 hsrc hnil hn3' hbytes hsz
                go_wp2_with fail
                exact ⟨⟨i + 1, n4, A4, cp4, acc ++ a, by omega, by go_num, rfl, HB4.out, HN4, HR4, HBD2, HRN⟩, by simp [intOf]; omega⟩
            · obtain rfl : 1 = i := by omega
              have hiI : ¬ (1 : Int) < (1 : Int) := by omega
              have hRI : R = (jAll (f p (d + 1)) (parts.drop parts.length)).bind fun b => some (acc ++ b) := by rw [← HM.out]; exact HRI.out
              have HRF := Lib.hid (jAll_end hRI)
              clear hRI
              have HBF := Lib.hid (HB2.out.trans (hbw2.mono HB2.out.size))
              clear hbw2
              go_wp2_with fail
              refine bodyPost_ret (v := .tuple #[.slice A n cp, .bool true]) (by simp [results, Try.results46, go_sem]) rfl ⟨HBF.out, ?_⟩
              rw [HRF.out]
              exact ⟨A, n, cp, rfl, HN.out, own_down HNR.out HB2.out.size⟩
  · clear hr0 hr2
    go_enter Try.func46, Try.ntmps46
    go_wp2_with fail
    go_loopw [10] (fun v wr => ∃ j : Nat, j ≤ L ∧ v = .int .i64 j ∧ Below w.heap.size w wr ∧ Hid (∀ q, q < j → (cs.getD q []).length ≠ 0)) (fun v _ => L - (intOf v).toNat)
    case atStart => exact ⟨0, Nat.zero_le _, rfl, Below.refl _ _, Lib.hid (fun q hq => absurd hq (Nat.not_lt_zero _))⟩
    case round =>
      obtain ⟨j, hj, rfl, hbw, HE⟩ := hrel
      rename World => wr
      by_cases hlt : j < L
      · have hjI : (j : Int) < (L : Int) := by omega
        obtain ⟨aa, cap2, k0, -⟩ := HRD.out j hlt wr hbw
        obtain ⟨ll, hll⟩ : ∃ n, n = (cs.getD j []).length := ⟨_, rfl⟩
        rw [← hll] at k0
        have HLL := Lib.hid hll
        have HBW := Lib.hid hbw
        clear hll hbw
        by_cases hz : ll = 0
        · subst hz
          have HRN := Lib.hid (HJ.out.1 j (by have := HCL.out; omega) HLL.out.symm)
          go_wp2_with fail
          refine bodyPost_ret (v := .tuple #[.slice none 0 0, .bool false]) (by simp [results, Try.results46, go_sem]) rfl ⟨HBW.out, ?_⟩
          rw [HRN.out]
        · have hzI : ((ll : Int) == 0) = false := by rw [beq_eq_false_iff_ne]; omega
          have HE2 := Lib.hid (show ∀ q, q < j + 1 → (cs.getD q []).length ≠ 0 from fun q hq => by
            by_cases h : q < j
            · exact HE.out q h
            · obtain rfl : q = j := by omega
              rw [← HLL.out]; exact hz)
          clear hz
          go_wp2_with fail
          exact ⟨⟨j + 1, by omega, by go_num, HBW.out, HE2⟩, by simp [intOf]; omega⟩
      · obtain rfl : j = L := by omega
        have hjI : ¬ (j : Int) < (j : Int) := by omega
        have HE2 := Lib.hid (HJ.out.2 (fun i hi => HE.out i (by have := HCL.out; omega)))
        obtain ⟨aa, cap2, k0, hlvs⟩ := HRD.out 0 hl1 wr hbw
        rw [Nat.add_zero] at k0
        have hne0 := HE.out 0 hl1
        obtain ⟨b3, off3, rfl, hb3, hlv⟩ := hlvs (fun e => hne0 (by rw [e]; rfl))
        have hl0 : 0 < (cs.getD 0 []).length := by omega
        have k1 := (hlv 0 hl0).2.1
        rw [Nat.zero_mul, Nat.add_zero] at k1
        obtain ⟨ll, hll⟩ : ∃ n, n = (cs.getD 0 []).length := ⟨_, rfl⟩
        rw [← hll] at k0 hl0
        have HBW := Lib.hid hbw
        generalize ((cs.getD 0 []).getD 0 (0, 0, 0)).2.1 = df at *
        clear hlvs hlv hne0 hll HE hbw
        by_cases hlow : df ≤ (d : Int)
        · have HRL := Lib.hid (HE2.out.1 hlow)
          have HBN := Lib.hid (HBW.out.alloc HBW.out.size (.cells #[.int .u64 0] 41))
          have HRR := Lib.hid (show NumRow w.heap.size [0] (.slice (some ⟨wr.heap.size, 0, none⟩) 1 1) (wr.alloc (.cells #[.int .u64 0] 41)) from World.ownsRow_lit (base := w.heap.size) (e := 41) (size := 1) wr #[.int .u64 0] 1 HBW.out.size (by decide) rfl)
          go_wp2_with fail
          refine bodyPost_ret (v := .tuple #[.slice (some ⟨wr.heap.size, 0, none⟩) 1 1, .bool true]) (by simp [results, Try.results46, go_sem]) rfl ⟨HBN.out, ?_⟩
          rw [HRL.out]
          exact ⟨_, _, _, rfl, rfl, HRR.out⟩
        · have HRL := Lib.hid (HE2.out.2 (by first | exact hlow | exact Int.not_le.1 hlow))
          have c1 := HR0.out (wr.alloc (.cells #[.slice (some ⟨b2, off2, none⟩) j ccap] 27)) (HBW.out.alloc HBW.out.size _)
          have HB2 := Lib.hid (HBW.out.alloc HBW.out.size (.cells #[.slice (some ⟨b2, off2, none⟩) j ccap] 27))
          have HPR := Lib.hid (prows_one (heap_alloc_new wr (.cells #[.slice (some ⟨b2, off2, none⟩) j ccap] 27)) (HRW.out _ HB2.out) HCL.out hcc HCC.out)
          clear HE2
          have HCA := Lib.hid (show Calls Try.prog 36 #[.slice (some ⟨b2, off2, none⟩) j ccap, .int .i64 ((p : Int) + 1)] (wr.alloc (.cells #[.slice (some ⟨b2, off2, none⟩) j ccap] 27)) (CAPost (wr.alloc (.cells #[.slice (some ⟨b2, off2, none⟩) j ccap] 27)) (cutAll ((p : Int) + 1) cs)) by
            have h := cutAll_any (some ⟨b2, off2, none⟩) ccap cs ((p : Int) + 1) (wr.alloc (.cells #[.slice (some ⟨b2, off2, none⟩) j ccap] 27)) (by have := HCL.out; omega) (fun i => Nat.le_trans (lsum_at cs i) HLS.out) (HRW.out _ HB2.out)
            rwa [HCL.out] at h)
          have HCM := Lib.hid (fun G (h : cutAll ((p : Int) + 1) cs = some G) => Sh.cutAll_mem h (HRW.out w (Below.refl _ _)).oks)
          have HCS := Lib.hid (fun G (h : cutAll ((p : Int) + 1) cs = some G) => Sh.cutAll_sum h)
          have HCN := Lib.hid (fun G (h : cutAll ((p : Int) + 1) cs = some G) => Sh.parts_cnt h)
          have HRC := Lib.hid (show R = (cutAll ((p : Int) + 1) cs).bind fun parts => (jAll (f (p + 1) (d + 1)) parts).bind fun l => some (parts.length :: l) from HRL.out)
          generalize cutAll ((p : Int) + 1) cs = RC at *
          clear HRL HPR
          go_wp2_with fail
          refine (HCA.out).mono ?_
          rintro e w5 ⟨hb5, hm5⟩
          have HB2 := Lib.hid (below_then HB2.out hb5)
          cases RC with
          | none =>
            obtain rfl := hm5
            have HRN := Lib.hid (show R = none from HRC.out)
            clear hb5
            go_wp2_with fail
            refine bodyPost_ret (v := .tuple #[.slice none 0 0, .bool false]) (by simp [results, Try.results46, go_sem]) rfl ⟨HB2.out, ?_⟩
            rw [HRN.out]
          | some parts =>
            obtain ⟨A2, cp2, m, rfl, hm, hca⟩ := hm5
            have HPR := Lib.hid (hca.prows (HCM.out parts rfl))
            have HLN := Lib.hid (show ∀ x ∈ parts, x.length = j from fun x hx => ((HCS.out parts rfl).2 x hx).trans HCL.out)
            have HSM := Lib.hid (HCS.out parts rfl).1
            have HM := Lib.hid hm
            have hm9 : m ≤ 1048576 := by rw [hm]; exact Nat.le_trans (HCN.out parts rfl) HLS.out
            have HRJ := Lib.hid (show R = (jAll (f (p + 1) (d + 1)) parts).bind fun l => some (parts.length :: l) from HRC.out)
            have HR3 := Lib.hid (show NumRow w5.heap.size [m] (.slice (some ⟨w5.heap.size, 0, none⟩) 1 1) (w5.alloc (.cells #[.int .u64 (m : Int)] 41)) from World.ownsRow_lit (base := w5.heap.size) (e := 41) (size := 1) w5 #[.int .u64 (m : Int)] 1 (Nat.le_refl _) (by decide) rfl)
            clear hm hca hb5 HRC HCM HCS HCN HCA
            go_wp2_with fail
            go_loopw [14, 15, 16, 17] (fun v14 v15 _ _ wr2 => ∃ (i n : Nat) (A : Option Addr) (cp : Nat) (acc : List Nat), i ≤ m ∧ v15 = .int .i64 i ∧ v14 = .slice A n cp ∧ Below w5.heap.size w5 wr2 ∧ Hid (n = acc.length) ∧ Hid (NumRow w5.heap.size acc (.slice A n cp) wr2) ∧ Hid (acc.length + (SK + 1) * ((parts.drop i).map lsum).sum ≤ 1 + (SK + 1) * lsum cs) ∧ Hid (R = (jAll (f (p + 1) (d + 1)) (parts.drop i)).bind fun b => some (acc ++ b))) (fun _ v15 _ _ _ => m - (intOf v15).toNat)
            case atStart => exact ⟨0, 1, _, 1, [m], Nat.zero_le _, rfl, rfl, (Below.refl _ _).alloc (Nat.le_refl _) _, Lib.hid rfl, HR3, Lib.hid (by rw [List.drop_zero, HSM.out]; exact Nat.le_refl _), Lib.hid (by rw [List.drop_zero, HRJ.out, ← HM.out]; rfl)⟩
            case round =>
              obtain ⟨i, n, A, cp, acc, hi, rfl, rfl, hbw2, HN, HNR, HBD, HRI⟩ := hrel
              rename World => wr2
              by_cases hlt2 : i < m
              · have hiI : (i : Int) < (m : Int) := by omega
                have hip : i < parts.length := by rw [← HM.out]; exact hlt2
                obtain ⟨pb, aa, c, hPA, hpb, kp, hlr, hac, hcm9⟩ := (HPR.out.next hbw2) i hip
                have hmem : parts.getD i [] ∈ parts := by rw [show parts.getD i [] = parts[i] by simp [List.getD, List.getElem?_eq_getElem hip]]; exact List.getElem_mem hip
                have hxl := HLN.out _ hmem
                rw [hxl] at kp hac
                have HSD := Lib.hid (sum_drop parts hip)
                have hxs : lsum (parts.getD i []) ≤ lsum cs := by rw [← HSM.out]; exact Sh.mem_le_sum _ _ (List.mem_map_of_mem hmem)
                have HBW2 := Lib.hid (HB2.out.trans (hbw2.mono HB2.out.size))
                have cc := HR0.out wr2 HBW2.out
                have HC := Lib.hid (HCI.out (d + 1) (p + 1) aa c (parts.getD i []) wr2 HBW2.out (by have := HKD.out; omega) (by have := HKD.out; omega) hxl hac hcm9 (by have := HLS.out; omega) hlr)
                have HRR := Lib.hid (jAll_round hip HRI.out)
                have HLEN := Lib.hid (fun a h => HJL.out (p + 1) (d + 1) (parts.getD i []) a hxl h)
                have hcm8 := hcm9
                unfold maxLen at hcm8
                subst hPA
                have HBL := Lib.hid hbw2
                generalize f (p + 1) (d + 1) (parts.getD i []) = X at *
                clear hip hmem hxl hxs hlr hcm9 hbw2
                go_wp2_with fail
                refine (HC.out).mono ?_
                rintro e w3 ⟨hb3, hm3⟩
                cases X with
                | none =>
                  obtain rfl := hm3
                  have HRN := Lib.hid (HRR.out.1 rfl)
                  have HB3 := Lib.hid (below_then HBW2.out hb3)
                  clear hb3
                  go_wp2_with fail
                  refine bodyPost_ret (v := .tuple #[.slice none 0 0, .bool false]) (by simp [results, Try.results46, go_sem]) rfl ⟨HB3.out, ?_⟩
                  rw [HRN.out]
                | some a =>
                  obtain ⟨A3, n3, cp3, rfl, hn3, hr3⟩ := hm3
                  have HRN := Lib.hid (HRR.out.2 a rfl)
                  obtain ⟨hsrc, hnil⟩ := numRow_src hr3
                  have hown := row_below HNR.out hb3
                  rw [← HN.out] at hown
                  have HB3 := Lib.hid (HBL.out.trans (hb3.mono HBL.out.size))
                  have hsz := HB3.out.size
                  have HBD2 := Lib.hid (show (acc ++ a).length + (SK + 1) * ((parts.drop (i + 1)).map lsum).sum ≤ 1 + (SK + 1) * lsum cs by
                    have h1 := HBD.out
                    have h2 := HLEN.out a rfl
                    rw [HSD.out, Nat.mul_add] at h1
                    rw [List.length_append]
                    omega)
                  have hbytes : (n + n3) * 8 ≤ 140737488355328 := by
                    have h1 := HBD2.out
                    rw [List.length_append] at h1
                    have h2 : (SK + 1) * lsum cs ≤ 901 * 1048576 := Nat.mul_le_mul HS9.out HLS.out
                    have := HN.out
                    omega
                  have hn3' := hn3.symm
                  clear hn3 hr3 hb3 HLEN HRR
                  go_wp2_with (at_builtin; refine wpList_append_nums rfl (.tmp 93) (.tmp 94) rfl w5.heap.size _ n _ rfl hown A3 n3 cp3 a hn3' rfl hnil hsrc hbytes hsz ?_; intro v' w4 hown4 hgrow4)
                  have HB4 := Lib.hid (HB3.out.grown hgrow4 hsz (fun k hk => (hown.lt k hk).1))
                  have hr4 : NumRow w5.heap.size (acc ++ a) v' w4 := by
                    unfold NumRow
                    rw [List.length_append, ← HN.out, hn3', show nv (acc ++ a) = nv acc ++ nv a by simp [nv]]
                    exact hown4
                  obtain ⟨A4, cp4, rfl, -⟩ := numRow_nums hr4
                  obtain ⟨n4, hn4⟩ : ∃ n, n = (acc ++ a).length := ⟨_, rfl⟩
                  rw [← hn4] at hr4 ⊢
                  have HR4 := Lib.hid hr4
                  have HN4 := Lib.hid hn4
                  clear hown hown4 hgrow4 hr4 hn4 hsrc hnil hn3' hbytes hsz
                  go_wp2_with fail
                  exact ⟨⟨i + 1, n4, A4, cp4, acc ++ a, by omega, by go_num, rfl, HB4.out, HN4, HR4, HBD2, HRN⟩, by simp [intOf]; omega⟩
              · obtain rfl : m = i := by omega
                have hiI : ¬ (m : Int) < (m : Int) := by omega
                have hRI : R = (jAll (f (p + 1) (d + 1)) (parts.drop parts.length)).bind fun b => some (acc ++ b) := by rw [← HM.out]; exact HRI.out
                have HRF := Lib.hid (jAll_end hRI)
                clear hRI
                have HBF := Lib.hid (HB2.out.trans (hbw2.mono HB2.out.size))
                clear hbw2
                go_wp2_with fail
                refine bodyPost_ret (v := .tuple #[.slice A n cp, .bool true]) (by simp [results, Try.results46, go_sem]) rfl ⟨HBF.out, ?_⟩
                rw [HRF.out]
                exact ⟨A, n, cp, rfl, HN.out, own_down HNR.out HB2.out.size⟩
            
end Go.Proofs.Ytjfkoledbegpfaa
