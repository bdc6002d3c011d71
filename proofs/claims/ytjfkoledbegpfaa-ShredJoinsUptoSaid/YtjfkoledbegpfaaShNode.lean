/- Words for trees of fields in memory. -/
import Derived.Laws.OwnMore
import Derived.Test.YtjfkoledbegpfaaShBase
namespace Go.Proofs.Ytjfkoledbegpfaa
open Go.RowKit
set_option linter.unusedVariables false

/-- how far down a field is: fields that need not be there, and those that may come again -/
def dn (r d : Nat) : Nat := if r = 0 then d else d + 1
def rn (r p : Nat) : Nat := if r = 2 then p + 1 else p
/-- leaves of one field -/
def lv1 (k : Sh.F) : Nat := match k with | .nil => 1 | .cons r k' s => Sh.leaves (.cons r k' s)
theorem leaves_cons (r : Nat) (k s : Sh.F) : Sh.leaves (.cons r k s) = lv1 k + Sh.leaves s := by cases k <;> rfl
/-- the six values of a field's node -/
def nx (r d p c : Nat) (k : Sh.F) (kv : Value) : List Value := [.int .i64 (r : Nat), .int .i64 (dn r d : Nat), .int .i64 (rn r p : Nat), .int .i64 (c : Nat), .int .i64 (c + lv1 k : Nat), kv]
def nag (r d p c : Nat) (k : Sh.F) (kv : Value) : Value := .agg (nx r d p c k kv).toArray

/-- fields side by side, laid from a place on: what is below them lies in blocks of which S holds -/
def Row (w : World) (S : Nat → Prop) : Sh.F → Nat → Nat → Nat → Nat → Nat → Prop
  | .nil, _, _, _, _, _ => True
  | .cons r k s, b, off, d, p, c => (∃ kv, (∀ i, i < 6 → w.cell? ⟨b, off + i, none⟩ = some ((nx r d p c k kv).getD i undef)) ∧
      ((k = .nil ∧ kv = .slice none 0 0) ∨ (k ≠ .nil ∧ ∃ b' cap, kv = .slice (some ⟨b', 0, none⟩) (Sh.len k) cap ∧ S b' ∧ Row w S k b' 0 (dn r d) (rn r p) c))) ∧
      Row w S s b (off + 6) d p (c + lv1 k)
/-- a slice of kids -/
def KidsOf (w : World) (S : Nat → Prop) (k : Sh.F) (kv : Value) (d p c : Nat) : Prop :=
  (k = .nil ∧ kv = .slice none 0 0) ∨ (k ≠ .nil ∧ ∃ b' cap, kv = .slice (some ⟨b', 0, none⟩) (Sh.len k) cap ∧ S b' ∧ Row w S k b' 0 d p c)
theorem row_cons {w : World} {S : Nat → Prop} {r : Nat} {k s : Sh.F} {b off d p c : Nat} : Row w S (.cons r k s) b off d p c ↔
    (∃ kv, (∀ i, i < 6 → w.cell? ⟨b, off + i, none⟩ = some ((nx r d p c k kv).getD i undef)) ∧ KidsOf w S k kv (dn r d) (rn r p) c) ∧ Row w S s b (off + 6) d p (c + lv1 k) := Iff.rfl

/-- blocks of which S holds as they were: trees are as they were -/
theorem Row.keep {w w' : World} {S : Nat → Prop} (hk : ∀ i, S i → w'.heap[i]? = w.heap[i]?) :
    ∀ (f : Sh.F) {b off d p c : Nat}, S b → Row w S f b off d p c → Row w' S f b off d p c
  | .nil, _, _, _, _, _, _, _ => trivial
  | .cons r k s, b, off, d, p, c, h1, h => by
    obtain ⟨⟨kv, hc, hkv⟩, hs⟩ := row_cons.1 h
    refine row_cons.2 ⟨⟨kv, fun i hi6 => ?_, ?_⟩, Row.keep hk s h1 hs⟩
    · rw [World.cell?_of_block (a := ⟨b, off + i, none⟩) (hk b h1)]; exact hc i hi6
    · rcases hkv with h | ⟨hne, b', cap, e, l1, hr⟩
      · exact Or.inl h
      · exact Or.inr ⟨hne, b', cap, e, l1, Row.keep hk k l1 hr⟩
theorem Row.wider {w : World} {S S' : Nat → Prop} (h1 : ∀ i, S i → S' i) : ∀ (f : Sh.F) {b off d p c : Nat}, Row w S f b off d p c → Row w S' f b off d p c
  | .nil, _, _, _, _, _, _ => trivial
  | .cons r k s, b, off, d, p, c, h => by
    obtain ⟨⟨kv, hc, hkv⟩, hs⟩ := row_cons.1 h
    refine row_cons.2 ⟨⟨kv, hc, ?_⟩, Row.wider h1 s hs⟩
    rcases hkv with h | ⟨hne, b', cap, e, l1, hr⟩
    · exact Or.inl h
    · exact Or.inr ⟨hne, b', cap, e, h1 _ l1, Row.wider h1 k hr⟩
theorem KidsOf.keep {w w' : World} {S : Nat → Prop} (hk : ∀ i, S i → w'.heap[i]? = w.heap[i]?) {k : Sh.F} {kv : Value} {d p c : Nat} (h : KidsOf w S k kv d p c) : KidsOf w' S k kv d p c := by
  rcases h with h | ⟨hne, b', cap, e, l1, hr⟩
  · exact Or.inl h
  · exact Or.inr ⟨hne, b', cap, e, l1, Row.keep hk k l1 hr⟩
theorem KidsOf.wider {w : World} {S S' : Nat → Prop} (h1 : ∀ i, S i → S' i) {k : Sh.F} {kv : Value} {d p c : Nat} (h : KidsOf w S k kv d p c) : KidsOf w S' k kv d p c := by
  rcases h with h | ⟨hne, b', cap, e, l1, hr⟩
  · exact Or.inl h
  · exact Or.inr ⟨hne, b', cap, e, h1 _ l1, Row.wider h1 k hr⟩

/-- the values of nodes side by side, as they are appended one by one -/
def Vals (w : World) (S : Nat → Prop) : Sh.F → List Value → Nat → Nat → Nat → Prop
  | .nil, xs, _, _, _ => xs = []
  | .cons r k s, xs, d, p, c => ∃ kv ys, xs = nx r d p c k kv ++ ys ∧ KidsOf w S k kv (dn r d) (rn r p) c ∧ Vals w S s ys d p (c + lv1 k)
theorem vals_length {w : World} {S : Nat → Prop} : ∀ {f : Sh.F} {xs : List Value} {d p c : Nat}, Vals w S f xs d p c → xs.length = Sh.len f * 6
  | .nil, _, _, _, _, h => by rw [show _ = [] from h]; rfl
  | .cons r k s, xs, d, p, c, h => by
    obtain ⟨kv, ys, e, _, hs⟩ := h
    rw [e, List.length_append, vals_length hs]
    simp only [nx, Sh.len, List.length_cons, List.length_nil]; omega
theorem Vals.keep {w w' : World} {S : Nat → Prop} (hk : ∀ i, S i → w'.heap[i]? = w.heap[i]?) :
    ∀ {f : Sh.F} {xs : List Value} {d p c : Nat}, Vals w S f xs d p c → Vals w' S f xs d p c
  | .nil, _, _, _, _, h => h
  | .cons r k s, xs, d, p, c, h => by
    obtain ⟨kv, ys, e, hkv, hs⟩ := h
    exact ⟨kv, ys, e, hkv.keep hk, Vals.keep hk hs⟩
theorem Vals.wider {w : World} {S S' : Nat → Prop} (h1 : ∀ i, S i → S' i) : ∀ {f : Sh.F} {xs : List Value} {d p c : Nat}, Vals w S f xs d p c → Vals w S' f xs d p c
  | .nil, _, _, _, _, h => h
  | .cons r k s, xs, d, p, c, h => by
    obtain ⟨kv, ys, e, hkv, hs⟩ := h
    exact ⟨kv, ys, e, hkv.wider h1, Vals.wider h1 hs⟩
theorem Vals.snoc {w : World} {S : Nat → Prop} {r : Nat} {k : Sh.F} {kv : Value} : ∀ {f : Sh.F} {xs : List Value} {d p c : Nat}, Vals w S f xs d p c → KidsOf w S k kv (dn r d) (rn r p) (c + Sh.leaves f) →
    Vals w S (Sh.app f (.cons r k .nil)) (xs ++ nx r d p (c + Sh.leaves f) k kv) d p c
  | .nil, xs, d, p, c, h, hk => by
    rw [show xs = [] from h]
    exact ⟨kv, [], by simp [Sh.leaves], hk, rfl⟩
  | .cons r' k' s, xs, d, p, c, h, hk => by
    obtain ⟨kv', ys, e, hkv, hs⟩ := h
    rw [leaves_cons, ← Nat.add_assoc] at hk ⊢
    exact ⟨kv', ys ++ nx r d p (c + lv1 k' + Sh.leaves s) k kv, by rw [e, List.append_assoc], hkv, Vals.snoc hs hk⟩
/-- what lies in a row as these values, is a row of nodes -/
theorem Vals.row {w : World} {S : Nat → Prop} {b : Nat} : ∀ {f : Sh.F} {xs : List Value} {off d p c : Nat}, Vals w S f xs d p c → (∀ i, i < xs.length → w.cell? ⟨b, off + i, none⟩ = xs[i]?) → Row w S f b off d p c
  | .nil, _, _, _, _, _, _, _ => trivial
  | .cons r k s, xs, off, d, p, c, h, hc => by
    obtain ⟨kv, ys, e, hkv, hs⟩ := h
    subst e
    refine row_cons.2 ⟨⟨kv, fun i hi6 => ?_, hkv⟩, Vals.row hs fun i hi => ?_⟩
    · have hl : i < (nx r d p c k kv).length := hi6
      rw [hc i (by rw [List.length_append]; omega), List.getElem?_append_left hl]
      simp [List.getD, List.getElem?_eq_getElem hl]
    · have hl : (nx r d p c k kv).length = 6 := rfl
      have := hc (6 + i) (by rw [List.length_append]; omega)
      rw [List.getElem?_append_right (by omega), hl, Nat.add_sub_cancel_left] at this
      rw [← this, Nat.add_assoc]
end Go.Proofs.Ytjfkoledbegpfaa
