/- Bodies between their length and their sum; pages: what is written, what is read, and their laws. -/
import Derived.Test.YtcachhnhncodoaaGreatP10
namespace Go.Proofs.YtcachhnhncodoaaGreat
open Go.RowKit
set_option linter.unusedVariables false

namespace Pg
/-- a body with its length and its sum -/
def sealB (b : List UInt8) : List UInt8 := V.enc b.length ++ (b ++ V.be 4 (Ad.of b))
def openB (s : List UInt8) : List UInt8 × Nat × Nat :=
  if (V.rd s).2.2 ≠ 0 then ([], 0, (V.rd s).2.2)
  else if s.length < (V.rd s).2.1 + (V.rd s).1 + 4 then ([], 0, 5)
  else if V.val ((s.drop ((V.rd s).2.1 + (V.rd s).1)).take 4) ≠ Ad.of ((s.drop (V.rd s).2.1).take (V.rd s).1) then ([], 0, 9)
  else ((s.drop (V.rd s).2.1).take (V.rd s).1, (V.rd s).2.1 + (V.rd s).1 + 4, 0)
theorem open_e1 {s : List UInt8} {n k e : Nat} (h : V.rd s = (n, k, e)) (he : e ≠ 0) : openB s = ([], 0, e) := by unfold openB; rw [h, if_pos he]
theorem open_e2 {s : List UInt8} {n k : Nat} (h : V.rd s = (n, k, 0)) (hl : s.length < k + n + 4) : openB s = ([], 0, 5) := by
  unfold openB; rw [h, if_neg (by simp), if_pos hl]
theorem open_e3 {s : List UInt8} {n k : Nat} (h : V.rd s = (n, k, 0)) (hl : ¬ s.length < k + n + 4) (hv : V.val ((s.drop (k + n)).take 4) ≠ Ad.of ((s.drop k).take n)) : openB s = ([], 0, 9) := by
  unfold openB; rw [h, if_neg (by simp), if_neg hl, if_pos hv]
theorem open_ok {s : List UInt8} {n k : Nat} (h : V.rd s = (n, k, 0)) (hl : ¬ s.length < k + n + 4) (hv : V.val ((s.drop (k + n)).take 4) = Ad.of ((s.drop k).take n)) : openB s = ((s.drop k).take n, k + n + 4, 0) := by
  unfold openB; rw [h, if_neg (by simp), if_neg hl, if_neg (by simpa using hv)]
theorem open_parts (b c t : List UInt8) (hc : c.length = 4) (hn : b.length < 18446744073709551616) :
    openB (V.enc b.length ++ (b ++ (c ++ t))) = if V.val c ≠ Ad.of b then ([], 0, 9) else (b, V.sz b.length + b.length + 4, 0) := by
  have hr := V.rd_enc b.length hn (b ++ (c ++ t))
  have he := V.enc_length b.length
  have d1 : (V.enc b.length ++ (b ++ (c ++ t))).drop (V.sz b.length) = b ++ (c ++ t) := by rw [← he]; exact List.drop_left
  have d2 : (V.enc b.length ++ (b ++ (c ++ t))).drop (V.sz b.length + b.length) = c ++ t := by rw [← List.drop_drop, d1]; exact List.drop_left
  have t1 : (b ++ (c ++ t)).take b.length = b := List.take_left
  have t2 : (c ++ t).take 4 = c := by rw [← hc]; exact List.take_left
  have hl : ¬ (V.enc b.length ++ (b ++ (c ++ t))).length < V.sz b.length + b.length + 4 := by
    simp only [List.length_append, he, hc]; omega
  by_cases h : V.val c ≠ Ad.of b
  · rw [if_pos h]; exact open_e3 hr hl (by rw [d1, d2, t1, t2]; exact h)
  · rw [if_neg h]
    have := open_ok hr hl (by rw [d1, d2, t1, t2]; exact Classical.not_not.1 h)
    rw [this, d1, t1]
theorem sum_val (b : List UInt8) : V.val (V.be 4 (Ad.of b)) = Ad.of b := by
  rw [V.val_be]; have := Ad.of_lt b; exact Nat.mod_eq_of_lt (by omega)
theorem seal_length (b : List UInt8) : (sealB b).length = V.sz b.length + b.length + 4 := by
  unfold sealB; simp only [List.length_append, V.enc_length, V.be_length]; omega
theorem open_seal (b t : List UInt8) (hn : b.length < 18446744073709551616) : openB (sealB b ++ t) = (b, (sealB b).length, 0) := by
  unfold sealB
  rw [List.append_assoc, List.append_assoc, open_parts b _ t (V.be_length _ _) hn, sum_val, if_neg (by simp)]
  have := seal_length b
  unfold sealB at this
  rw [this]
theorem open_cut (b : List UInt8) (k : Nat) (hn : b.length < 18446744073709551616) (hk : k < (sealB b).length) : openB ((sealB b).take k) = ([], 0, 5) := by
  have hl := seal_length b
  have he := V.enc_length b.length
  by_cases h : k < V.sz b.length
  · have e : (sealB b).take k = (V.enc b.length).take k := by unfold sealB; rw [List.take_append_of_le_length (by omega)]
    rw [e]
    exact open_e1 (V.rd_cut b.length k hn h) (by simp)
  · have e : (sealB b).take k = V.enc b.length ++ (b ++ V.be 4 (Ad.of b)).take (k - V.sz b.length) := by
      unfold sealB; rw [List.take_append, he, List.take_of_length_le (by omega)]
    have hlen : ((sealB b).take k).length = k := by rw [List.length_take]; omega
    rw [e] at hlen ⊢
    exact open_e2 (V.rd_enc b.length hn _) (by omega)

/-- one byte of a text is another one -/
theorem cut_at (s : List UInt8) (i : Nat) (x : UInt8) (h : i < s.length) : s = s.take i ++ [s.getD i 0] ++ s.drop (i + 1) := by
  have : s.getD i 0 = s[i] := by simp [List.getD, List.getElem?_eq_getElem h]
  rw [this, List.append_assoc, List.singleton_append, ← List.drop_eq_getElem_cons h, List.take_append_drop]
theorem val_inj {a b : List UInt8} (h : a.length = b.length) (e : V.val a = V.val b) : a = b := by
  rw [← V.be_val a, ← V.be_val b, h, e]
theorem set_split (A B : List UInt8) (i : Nat) (x : UInt8) (h : i < B.length) : (A ++ B).take (A.length + i) ++ [x] ++ (A ++ B).drop (A.length + i + 1) = A ++ (B.take i ++ [x] ++ B.drop (i + 1)) := by
  rw [List.take_append, List.take_of_length_le (by omega), List.drop_append, List.drop_eq_nil_of_le (show A.length ≤ A.length + i + 1 by omega)]
  rw [show A.length + i - A.length = i by omega, show A.length + i + 1 - A.length = i + 1 by omega]
  simp
theorem set_left (A B : List UInt8) (i : Nat) (x : UInt8) (h : i < A.length) : (A ++ B).take i ++ [x] ++ (A ++ B).drop (i + 1) = A.take i ++ [x] ++ A.drop (i + 1) ++ B := by
  rw [List.take_append_of_le_length (by omega), List.drop_append_of_le_length (by omega)]; simp
theorem set_len (B : List UInt8) (i : Nat) (x : UInt8) (h : i < B.length) : (B.take i ++ [x] ++ B.drop (i + 1)).length = B.length := by
  simp only [List.length_append, List.length_take, List.length_drop, List.length_singleton]; omega
theorem set_ne (B : List UInt8) (i : Nat) (x : UInt8) (h : i < B.length) (hx : B.getD i 0 ≠ x) : B.take i ++ [x] ++ B.drop (i + 1) ≠ B := by
  intro e
  have h1 : (B.take i ++ [x] ++ B.drop (i + 1)).getD i 0 = x := by
    have hl : (B.take i).length = i := by rw [List.length_take]; omega
    rw [List.append_assoc]
    simp only [List.getD]
    rw [List.getElem?_append_right (by omega), hl, Nat.sub_self]; rfl
  rw [e] at h1
  exact hx h1
theorem open_hurt (b t : List UInt8) (i : Nat) (x : UInt8) (hn : b.length < 18446744073709551616) (h1 : V.sz b.length ≤ i) (h2 : i < (sealB b).length) (hx : (sealB b).getD i 0 ≠ x) :
    openB ((sealB b).take i ++ [x] ++ (sealB b).drop (i + 1) ++ t) = ([], 0, 9) := by
  have he := V.enc_length b.length
  have hl := seal_length b
  have hb4 : (V.be 4 (Ad.of b)).length = 4 := V.be_length _ _
  obtain ⟨j, rfl⟩ : ∃ j, i = (V.enc b.length).length + j := ⟨i - V.sz b.length, by omega⟩
  have hj : j < (b ++ V.be 4 (Ad.of b)).length := by rw [List.length_append]; omega
  have hgx : (b ++ V.be 4 (Ad.of b)).getD j 0 ≠ x := by
    have : (sealB b).getD ((V.enc b.length).length + j) 0 = (b ++ V.be 4 (Ad.of b)).getD j 0 := by
      unfold sealB; simp only [List.getD]; rw [List.getElem?_append_right (by omega)]; congr 2; omega
    rw [← this]; exact hx
  have e1 : (sealB b).take ((V.enc b.length).length + j) ++ [x] ++ (sealB b).drop ((V.enc b.length).length + j + 1) = V.enc b.length ++ ((b ++ V.be 4 (Ad.of b)).take j ++ [x] ++ (b ++ V.be 4 (Ad.of b)).drop (j + 1)) := set_split _ _ _ _ hj
  rw [e1]
  by_cases hjb : j < b.length
  · have hgb : b.getD j 0 ≠ x := by
      have : (b ++ V.be 4 (Ad.of b)).getD j 0 = b.getD j 0 := by simp only [List.getD]; rw [List.getElem?_append_left hjb]
      rw [← this]; exact hgx
    rw [set_left _ _ _ _ hjb]
    have hlb := set_len b j x hjb
    have hof : Ad.of b ≠ Ad.of (b.take j ++ [x] ++ b.drop (j + 1)) := by
      have h := Ad.byte_of (b.take j) (b.drop (j + 1)) (b.getD j 0) x
      rw [← cut_at b j x hjb] at h
      intro e
      rw [beq_iff_eq.2 e] at h
      exact hgb (beq_iff_eq.1 h.symm).symm
    have h := open_parts (b.take j ++ [x] ++ b.drop (j + 1)) (V.be 4 (Ad.of b)) t hb4 (by omega)
    rw [hlb, sum_val, if_pos hof] at h
    rw [← h]; simp only [List.append_assoc]
  · obtain ⟨q, rfl⟩ : ∃ q, j = b.length + q := ⟨j - b.length, by omega⟩
    have hq : q < (V.be 4 (Ad.of b)).length := by rw [List.length_append] at hj; omega
    have hgc : (V.be 4 (Ad.of b)).getD q 0 ≠ x := by
      have : (b ++ V.be 4 (Ad.of b)).getD (b.length + q) 0 = (V.be 4 (Ad.of b)).getD q 0 := by
        simp only [List.getD]; rw [List.getElem?_append_right (by omega)]; congr 2; omega
      rw [← this]; exact hgx
    rw [set_split _ _ _ _ hq]
    have hlc := set_len (V.be 4 (Ad.of b)) q x hq
    have hv : V.val ((V.be 4 (Ad.of b)).take q ++ [x] ++ (V.be 4 (Ad.of b)).drop (q + 1)) ≠ Ad.of b := by
      intro e
      have h2 := val_inj hlc (e.trans (sum_val b).symm)
      exact set_ne _ _ _ hq hgc h2
    have h := open_parts b ((V.be 4 (Ad.of b)).take q ++ [x] ++ (V.be 4 (Ad.of b)).drop (q + 1)) t (by omega) hn
    rw [if_pos hv] at h
    rw [← h]; simp only [List.append_assoc]
/-- two bytes side by side are changed about -/
theorem open_swap (b : List UInt8) (i : Nat) (hn : b.length < 18446744073709551616) (h1 : V.sz b.length ≤ i) (h2 : i + 1 < V.sz b.length + b.length) (hx : (sealB b).getD i 0 ≠ (sealB b).getD (i + 1) 0) :
    openB ((sealB b).take i ++ [(sealB b).getD (i + 1) 0] ++ [(sealB b).getD i 0] ++ (sealB b).drop (i + 2)) = ([], 0, 9) := by
  have he := V.enc_length b.length
  have hb4 : (V.be 4 (Ad.of b)).length = 4 := V.be_length _ _
  obtain ⟨j, rfl⟩ : ∃ j, i = V.sz b.length + j := ⟨i - V.sz b.length, by omega⟩
  have hj : j + 1 < b.length := by omega
  have g : ∀ q, q < b.length → (sealB b).getD (V.sz b.length + q) 0 = b.getD q 0 := fun q hq => by
    unfold sealB; simp only [List.getD]; rw [List.getElem?_append_right (by omega), List.getElem?_append_left (by omega)]; congr 2; omega
  rw [show V.sz b.length + j + 1 = V.sz b.length + (j + 1) by omega, g _ hj, g _ (by omega)] at hx
  rw [show V.sz b.length + j + 1 = V.sz b.length + (j + 1) by omega, g _ hj, g _ (by omega)]
  have e1 : (sealB b).take (V.sz b.length + j) = V.enc b.length ++ b.take j := by
    unfold sealB; rw [List.take_append, he, List.take_of_length_le (by omega), show V.sz b.length + j - V.sz b.length = j by omega, List.take_append_of_le_length (by omega)]
  have e2 : (sealB b).drop (V.sz b.length + j + 2) = b.drop (j + 2) ++ V.be 4 (Ad.of b) := by
    unfold sealB; rw [List.drop_append, he, List.drop_eq_nil_of_le (by omega), show V.sz b.length + j + 2 - V.sz b.length = j + 2 by omega, List.drop_append_of_le_length (by omega)]; rfl
  rw [e1, e2]
  have hb : b = b.take j ++ [b.getD j 0] ++ [b.getD (j + 1) 0] ++ b.drop (j + 2) := by
    have a1 := cut_at b j 0 (by omega)
    have a2 := cut_at (b.drop (j + 1)) 0 0 (by rw [List.length_drop]; omega)
    rw [List.take_zero, List.nil_append, List.drop_drop] at a2
    have a3 : (b.drop (j + 1)).getD 0 0 = b.getD (j + 1) 0 := by simp [List.getD, List.getElem?_drop]
    rw [a3] at a2
    rw [a2] at a1
    rw [List.append_assoc (b.take j ++ [b.getD j 0])]
    exact a1
  have hof : Ad.of b ≠ Ad.of (b.take j ++ [b.getD (j + 1) 0] ++ [b.getD j 0] ++ b.drop (j + 2)) := by
    have h := Ad.swap_of (b.take j) (b.drop (j + 2)) (b.getD (j + 1) 0) (b.getD j 0)
    rw [← hb] at h
    intro e
    rw [beq_iff_eq.2 e] at h
    exact hx (beq_iff_eq.1 h.symm).symm
  have hlb : (b.take j ++ [b.getD (j + 1) 0] ++ [b.getD j 0] ++ b.drop (j + 2)).length = b.length := by
    simp only [List.length_append, List.length_take, List.length_drop, List.length_singleton]; omega
  have h := open_parts (b.take j ++ [b.getD (j + 1) 0] ++ [b.getD j 0] ++ b.drop (j + 2)) (V.be 4 (Ad.of b)) [] hb4 (by omega)
  rw [hlb, sum_val, if_pos hof, List.append_nil] at h
  rw [← h]; simp only [List.append_assoc]

/-- cells of a column: the body of their page -/
def bodyP (k : Int) (l : List C.Cl) : List UInt8 :=
  UInt8.ofNat k.toNat :: (V.enc l.length ++ (V.enc (C.dense l).length ++
    ((if (C.dense l).length < l.length then (bytesR (l.map C.here)).1 else []) ++
     (if (C.dense l).length = 0 then [] else if k = 1 then bestNW ((C.dense l).map (·.num)) else bestTW ((C.dense l).map (·.txt))))))
/-- which cells are there, and what is left -/
def whichR (s : List UInt8) (many there : Nat) : List Bool × List UInt8 × Nat :=
  if there = many then (List.replicate many true, s, 0)
  else if s.length < (many + 7) / 8 then ([], [], 5)
  else if (mofR (s.take ((many + 7) / 8)) many).2 ≠ 0 then ([], [], (mofR (s.take ((many + 7) / 8)) many).2)
  else if M.cnt (mofR (s.take ((many + 7) / 8)) many).1 ≠ there then ([], [], 1)
  else ((mofR (s.take ((many + 7) / 8)) many).1, s.drop ((many + 7) / 8), 0)
def toldR (s : List UInt8) (k : Int) (n : Nat) : List C.Cl × Nat :=
  if k = 1 then ((nlR s n).1.map fun x => ⟨1, x, []⟩, (nlR s n).2) else ((tlR s n).1.map fun x => ⟨k, 0, x⟩, (tlR s n).2)
/-- behind the marks -/
def restR (k : Int) (many there : Nat) (m : List Bool × List UInt8 × Nat) : List C.Cl × Nat :=
  if m.2.2 ≠ 0 then ([], m.2.2)
  else if there = 0 then (if m.2.1 ≠ [] then ([], 1) else (List.replicate many C.null, 0))
  else if (toldR m.2.1 k there).2 ≠ 0 then ([], (toldR m.2.1 k there).2)
  else (C.join m.1 (toldR m.2.1 k there).1, 0)
/-- behind both numbers -/
def cellsR (k : Int) (s : List UInt8) : List C.Cl × Nat :=
  if (V.rd s).2.2 ≠ 0 then ([], (V.rd s).2.2)
  else if 64 < (V.rd s).1 then ([], 2)
  else if (V.rd (s.drop (V.rd s).2.1)).2.2 ≠ 0 then ([], (V.rd (s.drop (V.rd s).2.1)).2.2)
  else if (V.rd s).1 < (V.rd (s.drop (V.rd s).2.1)).1 then ([], 4)
  else restR k (V.rd s).1 (V.rd (s.drop (V.rd s).2.1)).1 (whichR ((s.drop (V.rd s).2.1).drop (V.rd (s.drop (V.rd s).2.1)).2.1) (V.rd s).1 (V.rd (s.drop (V.rd s).2.1)).1)
def pageC (b : List UInt8) (n : Nat) : Int × List C.Cl × Nat × Nat :=
  match b with
  | [] => (0, [], 0, 5)
  | c :: t => if c.toNat ≠ 1 ∧ c.toNat ≠ 2 then (0, [], 0, 7)
    else if (cellsR (c.toNat : Int) t).2 ≠ 0 then (0, [], 0, (cellsR (c.toNat : Int) t).2)
    else ((c.toNat : Int), (cellsR (c.toNat : Int) t).1, n, 0)
/-- the page with which a text begins -/
def readR (s : List UInt8) : Int × List C.Cl × Nat × Nat :=
  if (openB s).2.2 ≠ 0 then (0, [], 0, (openB s).2.2) else pageC (openB s).1 (openB s).2.1
def writeR (k : Int) (l : List C.Cl) : List UInt8 × Nat := if C.chk k l ≠ 0 then ([], C.chk k l) else (sealB (bodyP k l), 0)
end Pg
end Go.Proofs.YtcachhnhncodoaaGreat
