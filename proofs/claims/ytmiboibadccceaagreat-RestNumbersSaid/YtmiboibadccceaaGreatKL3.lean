/- The law CodecReads. -/
import Derived.Test.YtmiboibadccceaaGreatKB
namespace Go.Proofs.YtmiboibadccceaaGreat
open Go.RowKit
set_option linter.unusedVariables false

theorem kstr_ex (s : ByteArray) : ∃ x : List UInt8, s = str x ∧ x.length = s.size := ⟨s.data.toList, (str_eta s).symm, len_data s⟩
theorem kd_len (s : List UInt8) (many : Int) : (dreadR s many).1.length ≤ 64 := by
  unfold dreadR
  split
  · simp
  · split
    · simp
    · split
      · simp
      · obtain ⟨_, h2, _, _⟩ := parseR_facts s many.toNat
        unfold dread2
        split
        · simp
        · simp only [D.sums_length, List.length_cons, D.zags, List.length_map]; omega
theorem kfin_len (b : Nat) (m : List Nat × Nat) : (P.fin b m).1.length ≤ m.1.length := by
  unfold P.fin
  split
  · simp
  · split
    · simp
    · simp
theorem kp_len (s : List UInt8) (many : Int) : (P.read s many).1.length ≤ 64 := by
  unfold P.read
  split
  · simp
  · split
    · simp
    · rw [pread_eq]
      split
      · simp
      · have h1 := kfin_len (pparseR s many.toNat).1 ((pparseR s many.toNat).2.1, 0)
        have h2 := (pparse_facts s many.toNat).2
        simp only at h1
        omega
theorem nlR_len (s : List UInt8) (many : Int) : (nlR s many).1.length ≤ 64 := by
  unfold nlR
  by_cases h0 : many < 0
  · rw [if_pos h0]; simp
  by_cases h1 : 64 < many
  · rw [if_neg h0, if_pos h1]; simp
  rw [if_neg h0, if_neg h1]
  obtain ⟨m, rfl⟩ : ∃ m : Nat, many = m := ⟨many.toNat, by omega⟩
  cases s with
  | nil => simp
  | cons c t =>
    simp only
    split
    · simp
    · split
      · exact kd_len _ _
      · split
        · exact kp_len _ _
        · unfold nl2
          cases t with
          | nil => simp
          | cons d u =>
            simp only
            have hq : (if c.toNat = 2 then hreadR u m d.toNat else unpR u m d.toNat).1.length ≤ 64 := by
              split
              · obtain ⟨v, hv⟩ : ∃ v, v = hreadR u m d.toNat := ⟨_, rfl⟩
                obtain ⟨v1, v2⟩ := v
                have h := hreadR_facts hv.symm
                rw [← hv]
                by_cases he : v2 = 0
                · have := (h.2 he).1; simp only; omega
                · rw [h.1 he]; simp
              · obtain ⟨v, hv⟩ : ∃ v, v = unpR u m d.toNat := ⟨_, rfl⟩
                obtain ⟨v1, v2⟩ := v
                have h := unpR_facts2 hv.symm
                rw [← hv]
                by_cases he : v2 = 0
                · have := (h.2 he).1; simp only; omega
                · rw [h.1 he]; simp
            generalize (if c.toNat = 2 then hreadR u m d.toNat else unpR u m d.toNat) = q at *
            unfold wchk
            split
            · simp
            · split
              · simp
              · exact hq
theorem kpl_len : ∀ (m : Nat) (s : List UInt8), (plR m s).1.length ≤ m
  | 0, s => by unfold plR; split <;> simp
  | m + 1, s => by
    have ih := kpl_len m (s.drop ((V.rd s).2.1 + (V.rd s).1))
    unfold plR
    split
    · simp
    · split
      · simp
      · split
        · simp
        · split
          · simp
          · simp only [List.length_cons]; omega
theorem kf_len (s : List UInt8) (m : Nat) (hm : m ≤ 64) : (freadR s m).1.length ≤ 64 := by
  obtain ⟨v, hv⟩ : ∃ v, v = freadR s m := ⟨_, rfl⟩
  obtain ⟨v1, v2⟩ := v
  have h := freadR_facts hv.symm hm
  rw [← hv]
  by_cases he : v2 = 0
  · have := (h.2 he).1; simp only; omega
  · rw [h.1 he]; simp
theorem kts_len (b : List (List UInt8)) (cs : List Nat) : (textsR b cs).1.length ≤ 64 := by
  unfold textsR
  split
  · simp
  · split
    · simp
    · split
      · simp
      · simp only [List.length_map]; omega
theorem kbt_len (m : Nat) (s : List UInt8) : (btR m s).1.length ≤ 64 := by
  unfold btR
  split
  · simp
  · split
    · simp
    · split
      · simp
      · split
        · simp
        · split
          · simp
          · exact kts_len _ _
theorem tlR_len (s : List UInt8) (many : Int) : (tlR s many).1.length ≤ 64 := by
  unfold tlR
  by_cases h0 : many < 0
  · rw [if_pos h0]; simp
  by_cases h1 : 64 < many
  · rw [if_neg h0, if_pos h1]; simp
  rw [if_neg h0, if_neg h1]
  obtain ⟨m, rfl⟩ : ∃ m : Nat, many = m := ⟨many.toNat, by omega⟩
  cases s with
  | nil => simp
  | cons c t =>
    simp only [Int.toNat_natCast]
    split
    · exact Nat.le_trans (kpl_len _ _) (by omega)
    · split
      · exact kbt_len _ _
      · split
        · exact kf_len _ _ (by omega)
        · simp

set_option maxHeartbeats 2000000 in
set_option maxRecDepth 100000 in
theorem codecReads_walk (w : World) (s0 : ByteArray) (hs0 : s0.size ≤ maxLen) (n : Int) (hn : -9223372036854775808 ≤ n ∧ n ≤ 9223372036854775807) :
    Calls Tryz.prog 5 #[.string s0, .int .i64 n] w (BoolPost true w) := by
  obtain ⟨x, rfl, lx⟩ := kstr_ex s0
  have hRN := fun W => readNumbers_any x n W (by omega)
  have hRT := fun W => readTexts_any x n W (by omega)
  have hNO := fun W => nlof_any x n W (by omega)
  have hTO := fun W => tlof_any x n W (by omega)
  unfold AllPost at hRN hNO
  unfold TextsPost at hRT hTO
  have hql := nlR_len x n
  have htl := tlR_len x n
  generalize nlR x n = q at *
  generalize tlR x n = t at *
  obtain ⟨q, eq⟩ := q
  obtain ⟨t, et⟩ := t
  simp only at hRN hRT hNO hTO hql htl
  have HRN := Lib.hid hRN
  have HRT := Lib.hid hRT
  have HNO := Lib.hid hNO
  have HTO := Lib.hid hTO
  have HSN := Lib.hid (fun a2 a3 c2 c3 W (h1 : Nums W W.heap.size a2 q) (h2 : Nums W W.heap.size a3 q) => show Calls Tryz.prog 26 #[.slice a2 q.length c2, .slice a3 q.length c3] W (fun e w' => e = .returned (.bool true) ∧ Below W.heap.size W w') by have h := same_any a2 a3 c2 c3 q q W _ h1 h2 (by omega); rw [decide_eq_true rfl] at h; exact h)
  have HST := Lib.hid (fun a2 a3 c2 c3 W (h1 : Txts W W.heap.size a2 t) (h2 : Txts W W.heap.size a3 t) => show Calls Tryz.prog 27 #[.slice a2 t.length c2, .slice a3 t.length c3] W (fun e w' => e = .returned (.bool true) ∧ Below W.heap.size W w') by have h := tsame_any a2 a3 c2 c3 t t W _ h1 h2 (by omega); rw [decide_eq_true rfl] at h; exact h)
  generalize str x = S at *
  generalize q.length = ql at *
  generalize t.length = tl at *
  clear hRN hRT hNO hTO hql htl lx hs0 hn
  have hF := Below.refl w.heap.size w
  go_enter Tryz.func5, Tryz.ntmps5
  go_wp2_with fail
  refine (HRN.out _).mono ?_
  rintro e w1 ⟨a1, c1, rfl, n1, hb1⟩
  replace hF := below_then hF hb1
  clear hb1
  go_wp2_with fail
  refine (HRT.out _).mono ?_
  rintro e w2 ⟨a2, c2, rfl, n2, hb1⟩
  replace n1 := n1.next hb1
  replace hF := below_then hF hb1
  clear hb1
  go_wp2_with fail
  refine (HNO.out _).mono ?_
  rintro e w3 ⟨a3, c3, rfl, n3, hb1⟩
  replace n1 := n1.next hb1
  replace n2 := n2.next hb1
  replace hF := below_then hF hb1
  clear hb1
  go_wp2_with fail
  refine (HTO.out _).mono ?_
  rintro e w4 ⟨a4, c4, rfl, n4, hb1⟩
  replace n1 := n1.next hb1
  replace n2 := n2.next hb1
  replace n3 := n3.next hb1
  replace hF := below_then hF hb1
  clear hb1
  go_wp2_with fail
  refine (kbegun_any _).mono ?_
  rintro e w1 ⟨rfl, hb1⟩
  replace n1 := n1.next hb1
  replace n2 := n2.next hb1
  replace n3 := n3.next hb1
  replace n4 := n4.next hb1
  replace hF := below_then hF hb1
  clear hb1
  go_wp2_with fail
  refine (HSN.out _ _ _ _ _ n1 n3).mono ?_
  rintro e w1 ⟨rfl, hb1⟩
  replace n1 := n1.next hb1
  replace n2 := n2.next hb1
  replace n3 := n3.next hb1
  replace n4 := n4.next hb1
  replace hF := below_then hF hb1
  clear hb1
  go_wp2_with fail
  refine (HST.out _ _ _ _ _ n2 n4).mono ?_
  rintro e w1 ⟨rfl, hb1⟩
  replace n1 := n1.next hb1
  replace n2 := n2.next hb1
  replace n3 := n3.next hb1
  replace n4 := n4.next hb1
  replace hF := below_then hF hb1
  clear hb1
  go_wp2_with fail
  go_ret
  exact ⟨rfl, hF⟩
end Go.Proofs.YtmiboibadccceaaGreat
