/- What is read of whatever text has the right form; a page that was written is read as it was. -/
import Derived.Test.YtcachhnhncodoaaGreatPgPlain
import Derived.Test.YtcachhnhncodoaaGreatP10
namespace Go.Proofs.YtcachhnhncodoaaGreat
open Go.RowKit
set_option linter.unusedVariables false

namespace Pg
theorem dread_ok {s : List UInt8} {n : Nat} (hn : n ≤ 64) (h : (dreadR s n).2 = 0) : (dreadR s n).1.length = n ∧ ∀ x ∈ (dreadR s n).1, x < 18446744073709551616 := by
  unfold dreadR at h ⊢
  rw [if_neg (by omega), if_neg (by omega)] at h ⊢
  by_cases h0 : (n : Int) = 0
  · rw [if_pos h0]; simp; omega
  rw [if_neg h0, Int.toNat_natCast] at h ⊢
  obtain ⟨f1, f2, f3, f4⟩ := parseR_facts s n
  unfold dread2 at h ⊢
  by_cases h1 : (parseR s n).2.2 ≠ 0
  · rw [if_pos h1] at h; exact absurd h h1
  rw [if_neg h1]
  have hl : (parseR s n).2.1.length = n - 1 := by
    have h1' := Classical.not_not.1 h1
    unfold parseR at h1' ⊢
    split at h1'
    · rename_i hv; exact absurd h1' hv
    · split at h1'
      · exact absurd h1' (by decide)
      · rename_i a1 a2
        rw [if_neg a1, if_neg a2]
        unfold parse2 at h1' ⊢
        split at h1'
        · rename_i hv; exact absurd h1' hv
        · split at h1'
          · exact absurd h1' (by decide)
          · rename_i b1 b2
            rw [if_neg b1, if_neg b2]
            exact ((hreadR_facts rfl).2 (Classical.not_not.1 b1)).1
  refine ⟨by simp only [D.sums_length, List.length_cons, D.zags, List.length_map]; omega, D.sums_lt _ ?_⟩
  intro x hx
  rcases List.mem_cons.1 hx with rfl | hx
  · exact f1
  · exact D.zags_lt _ f3 x hx
theorem pread_ok {s : List UInt8} {n : Nat} (hn : n ≤ 64) (h : (P.read s n).2 = 0) : (P.read s n).1.length = n ∧ ∀ x ∈ (P.read s n).1, x < 18446744073709551616 := by
  unfold P.read at h ⊢
  rw [if_neg (by omega), if_neg (by omega), Int.toNat_natCast] at h ⊢
  obtain ⟨b1, b2⟩ := head_facts s n
  unfold P.readN at h ⊢
  simp only at h ⊢
  by_cases h1 : (P.head s n).2.2.2.2.2 ≠ 0
  · rw [if_pos h1] at h; exact absurd h h1
  rw [if_neg h1] at h ⊢
  have hl : (P.head s n).2.2.1.length = n := by
    have h1' := Classical.not_not.1 h1
    unfold P.head at h1' ⊢
    split at h1'
    · rename_i hv; exact absurd h1' hv
    rename_i a1
    rw [if_neg a1]
    simp only at h1' ⊢
    split at h1'
    · exact absurd h1' (by decide)
    rename_i a2
    rw [if_neg a2]
    split at h1'
    · exact absurd h1' (by decide)
    rename_i a3
    rw [if_neg a3]
    split at h1'
    · exact absurd h1' (by decide)
    rename_i a4
    rw [if_neg a4]
    split at h1'
    · exact absurd h1' (by decide)
    rename_i a5
    rw [if_neg a5]
    simp only [B.dg_length]
  have hml := P.mend_length (P.head s n).2.1 (P.head s n).2.2.2.2.1 (P.head s n).2.2.1 (P.head s n).2.2.2.1 0
  generalize P.mend (P.head s n).2.1 (P.head s n).2.2.2.2.1 (P.head s n).2.2.1 (P.head s n).2.2.2.1 0 = m at *
  generalize (P.head s n).1 = b at *
  unfold P.fin at h ⊢
  by_cases h2 : m.2 ≠ 0
  · rw [if_pos h2] at h; exact absurd h h2
  rw [if_neg h2] at h ⊢
  by_cases h3 : m.1.any (fun n => decide (18446744073709551615 - b < n)) = true
  · rw [if_pos h3] at h; exact absurd h (by decide)
  rw [if_neg h3]
  refine ⟨by simp only [List.length_map]; omega, fun x hx => ?_⟩
  simp only [List.mem_map] at hx
  obtain ⟨y, hy, rfl⟩ := hx
  simp only [List.any_eq_true, decide_eq_true_eq, not_exists, not_and, Nat.not_lt] at h3
  have := h3 y hy
  omega
theorem nlR_ok {s : List UInt8} {n : Nat} (hn : n ≤ 64) (h : (nlR s n).2 = 0) : (nlR s n).1.length = n ∧ ∀ x ∈ (nlR s n).1, x < 18446744073709551616 := by
  unfold nlR at h ⊢
  rw [if_neg (by omega), if_neg (by omega)] at h ⊢
  cases s with
  | nil => exact absurd h (by simp)
  | cons c t =>
    simp only at h ⊢
    by_cases h1 : c.toNat < 1 ∨ 4 < c.toNat
    · rw [if_pos h1] at h; exact absurd h (by decide)
    rw [if_neg h1] at h ⊢
    by_cases h3 : c.toNat = 3
    · rw [if_pos h3] at h ⊢; exact dread_ok hn h
    rw [if_neg h3] at h ⊢
    by_cases h4 : c.toNat = 4
    · rw [if_pos h4] at h ⊢; exact pread_ok hn h
    rw [if_neg h4] at h ⊢
    cases t with
    | nil => exact absurd h (by simp [nl2])
    | cons d u =>
      have hq : ∀ q : List Nat × Nat, (q.2 = 0 → q.1.length = n ∧ ∀ x ∈ q.1, x < 18446744073709551616) → (wchk d.toNat q).2 = 0 → (wchk d.toNat q).1.length = n ∧ ∀ x ∈ (wchk d.toNat q).1, x < 18446744073709551616 := fun q hq hw => by
        unfold wchk at hw ⊢
        by_cases a1 : q.2 ≠ 0
        · rw [if_pos a1] at hw; exact absurd hw a1
        rw [if_neg a1] at hw ⊢
        by_cases a2 : B.wd q.1 ≠ d.toNat
        · rw [if_pos a2] at hw; exact absurd hw (by decide)
        rw [if_neg a2]; exact hq (Classical.not_not.1 a1)
      refine hq _ ?_ h
      intro hz
      split at hz
      · rename_i h2
        rw [if_pos h2]
        have := (hreadR_facts (s := u) (m := n) (wd := d.toNat) rfl).2 hz
        exact ⟨this.1, this.2.2⟩
      · rename_i h2
        rw [if_neg h2]
        have := (unpR_facts2 (s := u) (m := n) (wd := d.toNat) rfl).2 hz
        exact ⟨this.1, this.2.2⟩
theorem plR_ok : ∀ (m : Nat) (s : List UInt8), (plR m s).2 = 0 → (plR m s).1.length = m ∧ ∀ x ∈ (plR m s).1, x.length ≤ 16
  | 0, s, h => by
    unfold plR at h ⊢
    by_cases hs : s = []
    · rw [if_pos hs]; simp
    · rw [if_neg hs] at h; exact absurd h (by decide)
  | m + 1, s, h => by
    have ih := plR_ok m (s.drop ((V.rd s).2.1 + (V.rd s).1))
    unfold plR at h ⊢
    by_cases h1 : (V.rd s).2.2 ≠ 0
    · rw [if_pos h1] at h; exact absurd h h1
    rw [if_neg h1] at h ⊢
    by_cases h2 : 16 < (V.rd s).1
    · rw [if_pos h2] at h; exact absurd h (by decide)
    rw [if_neg h2] at h ⊢
    by_cases h3 : s.length < (V.rd s).2.1 + (V.rd s).1
    · rw [if_pos h3] at h; exact absurd h (by decide)
    rw [if_neg h3] at h ⊢
    by_cases h4 : (plR m (s.drop ((V.rd s).2.1 + (V.rd s).1))).2 ≠ 0
    · rw [if_pos h4] at h; exact absurd h h4
    rw [if_neg h4]
    have := ih (Classical.not_not.1 h4)
    refine ⟨by simp [this.1], fun x hx => ?_⟩
    rcases List.mem_cons.1 hx with rfl | hx
    · rw [List.length_take]; omega
    · exact this.2 x hx
theorem textsR_ok {b : List (List UInt8)} {cs : List Nat} (hb : ∀ x ∈ b, x.length ≤ 16) (h : (textsR b cs).2 = 0) : (textsR b cs).1.length = cs.length ∧ ∀ x ∈ (textsR b cs).1, x.length ≤ 16 := by
  unfold textsR at h ⊢
  by_cases h1 : bookR b ≠ 0
  · rw [if_pos h1] at h; exact absurd h h1
  rw [if_neg h1] at h ⊢
  by_cases h2 : 64 < cs.length
  · rw [if_pos h2] at h; exact absurd h (by decide)
  rw [if_neg h2] at h ⊢
  by_cases h3 : cs.any (fun c => decide (b.length ≤ c)) = true
  · rw [if_pos h3] at h; exact absurd h (by decide)
  rw [if_neg h3]
  refine ⟨by simp, fun x hx => ?_⟩
  simp only [List.mem_map] at hx
  obtain ⟨y, hy, rfl⟩ := hx
  by_cases hyb : y < b.length
  · have : b.getD y [] = b[y] := by simp [List.getD, List.getElem?_eq_getElem hyb]
    rw [this]; exact hb _ (List.getElem_mem hyb)
  · have : b.getD y [] = [] := by simp [List.getD, List.getElem?_eq_none (Nat.le_of_not_lt hyb)]
    rw [this]; simp
theorem tlR_ok {s : List UInt8} {n : Nat} (hn : n ≤ 64) (h : (tlR s n).2 = 0) : (tlR s n).1.length = n ∧ ∀ x ∈ (tlR s n).1, x.length ≤ 16 := by
  unfold tlR at h ⊢
  rw [if_neg (by omega), if_neg (by omega)] at h ⊢
  cases s with
  | nil => exact absurd h (by simp)
  | cons c t =>
    simp only [Int.toNat_natCast] at h ⊢
    by_cases h5 : c.toNat = 5
    · rw [if_pos h5] at h ⊢; exact plR_ok n t h
    rw [if_neg h5] at h ⊢
    by_cases h6 : c.toNat = 6
    · rw [if_pos h6] at h ⊢
      unfold btR at h ⊢
      by_cases a1 : (V.rd t).2.2 ≠ 0
      · rw [if_pos a1] at h; exact absurd h a1
      rw [if_neg a1] at h ⊢
      by_cases a2 : 64 < (V.rd t).1
      · rw [if_pos a2] at h; exact absurd h (by decide)
      rw [if_neg a2] at h ⊢
      by_cases a3 : t.length < (V.rd t).2.1 + B.sz (n * bw (V.rd t).1)
      · rw [if_pos a3] at h; exact absurd h (by decide)
      rw [if_neg a3] at h ⊢
      by_cases a4 : (unpR ((t.drop (V.rd t).2.1).take (B.sz (n * bw (V.rd t).1))) n (bw (V.rd t).1 : Nat)).2 ≠ 0
      · rw [if_pos a4] at h; exact absurd h a4
      rw [if_neg a4] at h ⊢
      by_cases a5 : (freadR (t.drop ((V.rd t).2.1 + B.sz (n * bw (V.rd t).1))) (V.rd t).1).2 ≠ 0
      · rw [if_pos a5] at h; exact absurd h a5
      rw [if_neg a5] at h ⊢
      have f1 := ((unpR_facts2 (s := (t.drop (V.rd t).2.1).take (B.sz (n * bw (V.rd t).1))) (m := n) (wd := bw (V.rd t).1) rfl).2 (Classical.not_not.1 a4)).1
      have f2 := ((freadR_facts (s := t.drop ((V.rd t).2.1 + B.sz (n * bw (V.rd t).1))) (n := (V.rd t).1) rfl (by omega)).2 (Classical.not_not.1 a5)).2
      have := textsR_ok f2 h
      exact ⟨this.1.trans f1, this.2⟩
    rw [if_neg h6] at h ⊢
    by_cases h7 : c.toNat = 7
    · rw [if_pos h7] at h ⊢
      exact (freadR_facts rfl hn).2 h
    · rw [if_neg h7] at h; exact absurd h (by decide)

/-- cells that were told: of their kind, none is a Null -/
theorem told_ok {s : List UInt8} {k : Int} {n : Nat} (hk : k = 1 ∨ k = 2) (hn : n ≤ 64) (h : (toldR s k n).2 = 0) :
    (toldR s k n).1.length = n ∧ C.chk k (toldR s k n).1 = 0 ∧ C.dense (toldR s k n).1 = (toldR s k n).1 ∧ ∀ x ∈ (toldR s k n).1, cOk x := by
  unfold toldR at h ⊢
  rcases hk with rfl | rfl
  · rw [if_pos rfl] at h ⊢
    obtain ⟨h1, h2⟩ := nlR_ok hn h
    simp only
    refine ⟨by rw [List.length_map, h1], C.chk_of (Or.inl rfl) (by rw [List.length_map]; omega) ?_, ?_, ?_⟩
    · intro c hc
      simp only [List.mem_map] at hc
      obtain ⟨x, _, rfl⟩ := hc
      simp [C.cellE]
    · unfold C.dense
      rw [List.filter_eq_self]
      intro c hc
      simp only [List.mem_map] at hc
      obtain ⟨x, _, rfl⟩ := hc
      simp [C.here]
    · intro c hc
      simp only [List.mem_map] at hc
      obtain ⟨x, hx, rfl⟩ := hc
      have := h2 x hx
      unfold cOk; simp [maxLen]; omega
  · rw [if_neg (by decide)] at h ⊢
    obtain ⟨h1, h2⟩ := tlR_ok hn h
    simp only
    refine ⟨by rw [List.length_map, h1], C.chk_of (Or.inr rfl) (by rw [List.length_map]; omega) ?_, ?_, ?_⟩
    · intro c hc
      simp only [List.mem_map] at hc
      obtain ⟨x, hx, rfl⟩ := hc
      have := h2 x hx
      simp [C.cellE]; omega
    · unfold C.dense
      rw [List.filter_eq_self]
      intro c hc
      simp only [List.mem_map] at hc
      obtain ⟨x, _, rfl⟩ := hc
      simp [C.here]
    · intro c hc
      simp only [List.mem_map] at hc
      obtain ⟨x, hx, rfl⟩ := hc
      have := h2 x hx
      unfold cOk; simp [maxLen]; omega
theorem told_bad {s : List UInt8} {k : Int} {n : Nat} (hk : k = 1 ∨ k = 2) (hn : n ≤ 64) : (toldR s k n).1.length ≤ 64 := by
  unfold toldR
  split
  · simp only [List.length_map]; exact nlR_len s n
  · simp only [List.length_map]; exact tlR_len s n
theorem join_told {m : List Bool} {s : List UInt8} {k : Int} {n : Nat} (hk : k = 1 ∨ k = 2) (hn : n ≤ 64) (h : (toldR s k n).2 = 0) (hm : m.length ≤ 64) (hc : M.cnt m = n) :
    C.joinR k m (toldR s k n).1 = (C.join m (toldR s k n).1, 0) := by
  obtain ⟨h1, h2, h3, _⟩ := told_ok hk hn h
  rw [fitC_join, if_neg]
  unfold fitC
  rw [if_neg (by simpa using h2), h3, if_neg (by omega), if_neg (by omega), if_neg (by simp; omega)]; simp

theorem cells_form {k : Int} {l : List C.Cl} (h : C.chk k l = 0) : (k = 1 → C.dense l = (C.dense l).map fun c => ⟨1, c.num, []⟩) ∧ (k = 2 → C.dense l = (C.dense l).map fun c => ⟨2, 0, c.txt⟩) := by
  obtain ⟨_, _, hc⟩ := C.chk_ok (C.dense_ok h)
  have hk0 : ∀ c ∈ C.dense l, c.kind ≠ 0 := fun c hc => by
    have := (List.mem_filter.1 hc).2; simpa [C.here] using this
  constructor
  · rintro rfl
    conv => lhs; rw [← List.map_id (C.dense l)]
    apply List.map_congr_left
    intro c hcm
    obtain ⟨_, a2, _, _, a5⟩ := C.cell_ok (hc c hcm)
    have a2' : c.kind = 1 := by rcases a2 with a | a; exact absurd a (hk0 c hcm); exact a
    have a5' : c.txt = [] := by rcases a5 with a | a; (rw [a2'] at a; exact absurd a (by decide)); exact a
    obtain ⟨x, y, z⟩ := c
    simp only at a2' a5'
    subst a2' a5'; rfl
  · rintro rfl
    conv => lhs; rw [← List.map_id (C.dense l)]
    apply List.map_congr_left
    intro c hcm
    obtain ⟨_, a2, _, a4, _⟩ := C.cell_ok (hc c hcm)
    have a2' : c.kind = 2 := by rcases a2 with a | a; exact absurd a (hk0 c hcm); exact a
    have a4' : c.num = 0 := by rcases a4 with a | a; (rw [a2'] at a; exact absurd a (by decide)); exact a
    obtain ⟨x, y, z⟩ := c
    simp only at a2' a4'
    subst a2' a4'; rfl
theorem fit_texts {k : Int} {l : List C.Cl} (h : C.chk k l = 0) : fitR ((C.dense l).map (·.txt)) = 0 := by
  obtain ⟨_, hl, hc⟩ := C.chk_ok (C.dense_ok h)
  unfold fitR
  rw [if_neg]
  simp only [not_or, Nat.not_lt, List.length_map]
  refine ⟨hl, ?_⟩
  have : ((C.dense l).map (·.txt)).findIdx long = ((C.dense l).map (·.txt)).length := by
    rw [List.findIdx_eq_length]
    intro x hx
    simp only [List.mem_map] at hx
    obtain ⟨c, hcm, rfl⟩ := hx
    have := (C.cell_ok (hc c hcm)).2.2.1
    unfold long; simp; omega
  rw [List.length_map] at this
  omega
/-- what is packed of marks is read back -/
theorem which_back (l : List C.Cl) (hl : l.length ≤ 64) (D : List UInt8) :
    whichR ((if (C.dense l).length < l.length then (bytesR (l.map C.here)).1 else []) ++ D) l.length (C.dense l).length = (l.map C.here, D, 0) := by
  have hle : (C.dense l).length ≤ l.length := List.length_filter_le _ _
  unfold whichR
  by_cases h : (C.dense l).length = l.length
  · rw [if_pos h, if_neg (by omega), List.nil_append]
    have : l.map C.here = List.replicate l.length true := by
      rw [List.eq_replicate_iff]
      refine ⟨List.length_map _, fun b hb => ?_⟩
      simp only [List.mem_map] at hb
      obtain ⟨c, hc, rfl⟩ := hb
      exact List.length_filter_eq_length_iff.1 h c hc
    rw [this]
  · have hlt : (C.dense l).length < l.length := by omega
    rw [if_neg h, if_pos hlt]
    obtain ⟨t, ht, _, hm⟩ := bytes_back (l.map C.here) (by rw [List.length_map]; exact hl)
    rw [List.length_map] at hm
    have htl : t.length = (l.length + 7) / 8 := by
      have e := congrArg Prod.fst ht
      unfold bytesR packR at e
      rw [if_neg (by omega), if_neg (by rw [ones_length, List.length_map]; omega)] at e
      split at e
      · rename_i hw
        rw [bytesR, packR, if_neg (by omega), if_neg (by rw [ones_length, List.length_map]; omega), if_pos hw] at ht
        exact absurd (congrArg Prod.snd ht) (by simp)
      · simp only at e
        rw [← e, B.le_length, ones_length, List.length_map]
        show (l.length * 1 + 7) / 8 = _
        rw [Nat.mul_one]
    rw [ht]
    have e1 : (t ++ D).take ((l.length + 7) / 8) = t := by rw [← htl]; exact List.take_left
    have e2 : (t ++ D).drop ((l.length + 7) / 8) = D := by rw [← htl]; exact List.drop_left
    rw [if_neg (by simp only [List.length_append]; omega), e1, e2, hm, if_neg (by simp), if_neg (by rw [C.dense_cnt]; simp)]
theorem cells_back {k : Int} {l : List C.Cl} (h : C.chk k l = 0) (hx : ∀ x ∈ l, cOk x) : cellsR k (bodyP k l).tail = (l, 0) := by
  obtain ⟨hk, hl, hc⟩ := C.chk_ok h
  have hle : (C.dense l).length ≤ l.length := List.length_filter_le _ _
  show cellsR k (V.enc l.length ++ (V.enc (C.dense l).length ++ ((if (C.dense l).length < l.length then (bytesR (l.map C.here)).1 else []) ++
     (if (C.dense l).length = 0 then [] else if k = 1 then bestNW ((C.dense l).map (·.num)) else bestTW ((C.dense l).map (·.txt)))))) = (l, 0)
  generalize hD : (if (C.dense l).length = 0 then [] else if k = 1 then bestNW ((C.dense l).map (·.num)) else bestTW ((C.dense l).map (·.txt))) = D
  have hw := which_back l hl D
  generalize (if (C.dense l).length < l.length then (bytesR (l.map C.here)).1 else []) = m at *
  unfold cellsR
  have e1 : ∀ X : List UInt8, (V.enc l.length ++ X).drop (V.sz l.length) = X := fun X => by rw [← V.enc_length]; exact List.drop_left
  have e2 : ∀ X : List UInt8, (V.enc (C.dense l).length ++ X).drop (V.sz (C.dense l).length) = X := fun X => by rw [← V.enc_length]; exact List.drop_left
  rw [V.rd_enc l.length (by omega)]
  simp only [e1]
  rw [V.rd_enc (C.dense l).length (by omega)]
  simp only [e2]
  rw [if_neg (by simp), if_neg (by omega), if_neg (by simp), if_neg (by omega), hw]
  unfold restR
  simp only
  rw [if_neg (by simp)]
  have hjb := C.join_back l (fun c hcm => (C.cell_ok (hc c hcm)).1)
  by_cases h0 : (C.dense l).length = 0
  · rw [if_pos h0] at hD ⊢
    subst hD
    rw [if_neg (by simp)]
    have e : ∀ c ∈ l, c = C.null := fun c hcm => by
      have hnm : c ∉ C.dense l := by rw [List.eq_nil_of_length_eq_zero h0]; simp
      apply (C.cell_ok (hc c hcm)).1
      refine Classical.byContradiction fun hk0 => hnm ?_
      exact List.mem_filter.2 ⟨hcm, by simpa [C.here] using hk0⟩
    rw [← List.eq_replicate_of_mem e]
  · rw [if_neg h0] at hD ⊢
    have hdm : ∀ x ∈ C.dense l, x ∈ l := fun x hx => (List.mem_filter.1 hx).1
    have ht : toldR D k (C.dense l).length = (C.dense l, 0) := by
      unfold toldR
      rcases hk with rfl | rfl
      · rw [if_pos rfl] at hD ⊢
        have hb := best_back ((C.dense l).map (·.num)) (by rw [List.length_map]; omega) (fun x hxm => by
          simp only [List.mem_map] at hxm
          obtain ⟨c, hcm, rfl⟩ := hxm
          exact (hx c (hdm c hcm)).2.2.1)
        rw [hD, List.length_map] at hb
        rw [hb]
        simp only [List.map_map]
        have := (cells_form h).1 rfl
        exact congrArg (fun z => (z, 0)) this.symm
      · rw [if_neg (by decide)] at hD ⊢
        have hb := tbest_back ((C.dense l).map (·.txt)) (fit_texts h)
        rw [hD, List.length_map] at hb
        rw [hb]
        simp only [List.map_map]
        have := (cells_form h).2 rfl
        exact congrArg (fun z => (z, 0)) this.symm
    rw [ht, if_neg (by simp), hjb]
theorem body_cons (k : Int) (l : List C.Cl) : bodyP k l = UInt8.ofNat k.toNat :: (bodyP k l).tail := rfl
theorem read_back {k : Int} {l : List C.Cl} (h : C.chk k l = 0) (hx : ∀ x ∈ l, cOk x) (hb : (bodyP k l).length < 18446744073709551616) (t : List UInt8) :
    readR (sealB (bodyP k l) ++ t) = (k, l, (sealB (bodyP k l)).length, 0) := by
  obtain ⟨hk, hl, hc⟩ := C.chk_ok h
  unfold readR
  rw [open_seal _ t hb, if_neg (by simp)]
  simp only
  have hcb := cells_back h hx
  rw [body_cons]
  unfold pageC
  simp only
  rcases hk with rfl | rfl
  · rw [if_neg (by decide)]
    have e : (((UInt8.ofNat (1 : Int).toNat).toNat : Nat) : Int) = 1 := by decide
    rw [e, hcb, if_neg (by simp), ← body_cons]
  · rw [if_neg (by decide)]
    have e : (((UInt8.ofNat (2 : Int).toNat).toNat : Nat) : Int) = 2 := by decide
    rw [e, hcb, if_neg (by simp), ← body_cons]
end Pg
end Go.Proofs.YtcachhnhncodoaaGreat
