/- The law NullsJoin. -/
import Derived.Test.YtocgimimmajjhaaCL1
namespace Go.Proofs.Ytocgimimmajjhaa
open Go.RowKit
set_option linter.unusedVariables false

set_option maxHeartbeats 2000000 in
set_option maxRecDepth 100000 in
theorem nullsJoin_walk (w : World) (k : Int) (hk : -9223372036854775808 ≤ k ∧ k ≤ 9223372036854775807) (am : Option Addr) (cm : Nat) (m : List Bool) (hmm : m.length ≤ maxLen) (hqm : m.length ≤ cm ∧ cm ≤ maxLen ∧ (am = none → cm = 0)) (hum : Bools w w.heap.size am m)
    (a : Option Addr) (c : Nat) (l : List C.Cl) (hm : l.length ≤ maxLen) (hcap : l.length ≤ c ∧ c ≤ maxLen ∧ (a = none → c = 0)) (hx : ∀ x ∈ l, cOk x) (hu : Cls w w.heap.size a l) (p : Int) (hp : -9223372036854775808 ≤ p ∧ p ≤ 9223372036854775807) :
    Calls Try.prog 4 #[.int .i64 k, .slice am m.length cm, .slice a l.length c, .int .i64 p] w (BoolPost true w) := by
  have HJ := Lib.hid (njoin_any k am cm m a c l w hmm hum hm hcap hx hu)
  have HA := Lib.hid (fun W (hb : Below w.heap.size w W) => nat_any k p am cm m a c l W hqm (hum.next hb) hm hx (hu.next hb))
  have HO := Lib.hid (fun W (hb : Below w.heap.size w W) => joinOf_any k am cm m a c l W hk hmm (hum.next hb) hm hx (hu.next hb))
  have hgd := guards_cell .eql
  have hz : ∀ w, (binOp .eql 38 (.agg #[.int .i64 0, .int .u64 0, .string ⟨#[]⟩]) (.agg #[.int .i64 0, .int .u64 0, .string ⟨#[]⟩])).run Try.prog w = .ok (.bool true) w := fun w => cell_eql_cell w C.null C.null
  by_cases h1 : fitC k m l ≠ 0
  · rw [show C.joinR k m l = ([], fitC k m l) by rw [fitC_join, if_pos h1]] at HJ HO
    rw [show atR k m l p = (C.null, fitC k m l) from if_pos h1] at HA
    generalize fitC k m l = er at *
    have g1 : ((er : Int) == 0) = false := by rw [beq_eq_false_iff_ne]; omega
    have g2 : ¬ (er : Int) = 0 := by omega
    have HSC := Lib.hid (csame_len2 0 [] ⟨rfl, by omega⟩)
    clear hu hx h1 hcap hm hqm hmm hum
    go_enter Try.func4, Try.ntmps4
    go_wp2_with fail
    refine (HJ.out).mono ?_
    rintro e w1 ⟨v1, rfl, hrow1, hb1⟩
    obtain ⟨aj, cj, rfl, hJ1, _⟩ := cRow_cls hrow1
    clear hrow1
    go_wp2_with fail
    refine (HA.out _ hb1).mono ?_
    rintro e w2 ⟨rfl, hb2⟩
    simp only [cag_null]
    have h2 := below_then hb1 hb2
    have hal2 := (Below.refl w2.heap.size w2).alloc (Nat.le_refl _) (.cells #[.int .i64 0, .int .u64 0, .string ⟨#[]⟩] 38)
    have q2 := tri_new w2 (.int .i64 0) (.int .u64 0) (.string ⟨#[]⟩)
    have h3 := below_then h2 hal2
    have r3 := below_then hb2 hal2
    go_wp2_with fail
    refine (HO.out _ h3).mono ?_
    rintro e w4 ⟨v4, rfl, hrow4, hb4⟩
    obtain ⟨ak, ck, rfl, hK4, _⟩ := cRow_cls hrow4
    clear hrow4
    have hal4 := (Below.refl w4.heap.size w4).alloc (Nat.le_refl _) (.cells #[.int .i64 0, .int .u64 0, .string ⟨#[]⟩] 38)
    have q4 := tri_new w4 (.int .i64 0) (.int .u64 0) (.string ⟨#[]⟩)
    have h5 := below_then (below_then h3 hb4) hal4
    have r5 := below_then (below_then r3 hb4) hal4
    have s5 := below_then hb4 hal4
    go_wp2_with fail
    refine (nbegun_any _).mono ?_
    rintro e w6 ⟨rfl, hb6⟩
    go_wp2_with fail
    refine (HSC.out _ _ _ _ _ (hJ1.next (below_then r5 hb6)) (hK4.next (below_then hal4 hb6))).mono ?_
    rintro e w7 ⟨rfl, hb7⟩
    have a7 := q2.next (below_then (below_then s5 hb6) hb7)
    have b7 := q4.next (below_then hb6 hb7)
    have a0 := a7.c0
    have a1 := a7.c1
    have a2 := a7.c2
    have b0 := b7.c0
    have b1 := b7.c1
    have b2 := b7.c2
    have h7 := below_then (below_then h5 hb6) hb7
    clear q2 q4 a7 b7 hal2 hal4
    go_wp2_with fail
    go_ret
    exact ⟨rfl, h7⟩
  have h1' : fitC k m l = 0 := Classical.not_not.1 h1
  obtain ⟨_, _, hm64, _⟩ := fitC_ok h1'
  rw [show C.joinR k m l = (C.join m l, 0) by rw [fitC_join, if_neg h1]] at HJ HO
  have hjl := C.join_length m l
  have HSC := Lib.hid (csame_len2 m.length (C.join m l) ⟨hjl, hm64⟩)
  by_cases hpp : p < 0 ∨ (m.length : Int) ≤ p
  · rw [show atR k m l p = (C.null, 3) by unfold atR; rw [if_neg h1, if_pos hpp]] at HA
    have hpc : decide (p < 0) = true ∨ decide (p < 0) = false ∧ decide ((m.length : Int) ≤ p) = true := by
      by_cases h0 : p < 0
      · exact Or.inl (decide_eq_true h0)
      · exact Or.inr ⟨decide_eq_false h0, decide_eq_true (by omega)⟩
    clear hu hx h1 h1' hcap hm hqm hmm hum hpp
    generalize C.join m l = R at *
    rcases hpc with g1 | ⟨g1, g2⟩
    all_goals
      go_enter Try.func4, Try.ntmps4
      go_wp2_with fail
      refine (HJ.out).mono ?_
      rintro e w1 ⟨v1, rfl, hrow1, hb1⟩
      obtain ⟨aj, cj, rfl, hJ1, _⟩ := cRow_cls hrow1
      simp only at hJ1 ⊢
      rw [hjl]
      clear hrow1
      go_wp2_with fail
      refine (HA.out _ hb1).mono ?_
      rintro e w2 ⟨rfl, hb2⟩
      simp only [cag_null]
      have h2 := below_then hb1 hb2
      have hal2 := (Below.refl w2.heap.size w2).alloc (Nat.le_refl _) (.cells #[.int .i64 0, .int .u64 0, .string ⟨#[]⟩] 38)
      have q2 := tri_new w2 (.int .i64 0) (.int .u64 0) (.string ⟨#[]⟩)
      have h3 := below_then h2 hal2
      have r3 := below_then hb2 hal2
      go_wp2_with fail
      refine (HO.out _ h3).mono ?_
      rintro e w4 ⟨v4, rfl, hrow4, hb4⟩
      obtain ⟨ak, ck, rfl, hK4, _⟩ := cRow_cls hrow4
      simp only at hK4 ⊢
      rw [hjl]
      clear hrow4
      have hal4 := (Below.refl w4.heap.size w4).alloc (Nat.le_refl _) (.cells #[.int .i64 0, .int .u64 0, .string ⟨#[]⟩] 38)
      have q4 := tri_new w4 (.int .i64 0) (.int .u64 0) (.string ⟨#[]⟩)
      have h5 := below_then (below_then h3 hb4) hal4
      have r5 := below_then (below_then r3 hb4) hal4
      have s5 := below_then hb4 hal4
      go_wp2_with fail
      refine (nbegun_any _).mono ?_
      rintro e w6 ⟨rfl, hb6⟩
      go_wp2_with fail
      refine (HSC.out _ _ _ _ _ (hJ1.next (below_then r5 hb6)) (hK4.next (below_then hal4 hb6))).mono ?_
      rintro e w7 ⟨rfl, hb7⟩
      have a7 := q2.next (below_then (below_then s5 hb6) hb7)
      have b7 := q4.next (below_then hb6 hb7)
      have a0 := a7.c0
      have a1 := a7.c1
      have a2 := a7.c2
      have b0 := b7.c0
      have b1 := b7.c1
      have b2 := b7.c2
      have h7 := below_then (below_then h5 hb6) hb7
      clear q2 q4 a7 b7 hal2 hal4
      go_wp2_with fail
      go_ret
      exact ⟨rfl, h7⟩
  obtain ⟨i, rfl⟩ : ∃ i : Nat, p = i := ⟨p.toNat, by omega⟩
  have hi : i < m.length := by omega
  rw [show atR k m l i = ((C.join m l).getD i C.null, 0) by unfold atR; rw [if_neg h1, if_neg hpp, Int.toNat_natCast]] at HA
  have g1 : decide ((i : Int) < 0) = false := decide_eq_false (by omega)
  have g2 : decide ((m.length : Int) ≤ (i : Int)) = false := decide_eq_false (by omega)
  have g3 : (0 : Int) ≤ (i : Int) := by omega
  have g4 : (i : Int) < (m.length : Int) := by omega
  have heq := fun w => cell_eql_cell w ((C.join m l).getD i C.null) ((C.join m l).getD i C.null)
  rw [decide_eq_true rfl] at heq
  have HNE := Lib.hid (show C.join m l ≠ [] from fun e => by rw [e] at hjl; simp at hjl; omega)
  obtain ⟨y, hy⟩ : ∃ y, y = (C.join m l).getD i C.null := ⟨_, rfl⟩
  rw [← hy] at heq HA
  have HY := Lib.hid hy
  clear hu hx h1 h1' hcap hm hqm hmm hum hpp hz hy
  generalize C.join m l = R at *
  unfold cag at heq
  go_enter Try.func4, Try.ntmps4
  go_wp2_with fail
  refine (HJ.out).mono ?_
  rintro e w1 ⟨v1, rfl, hrow1, hb1⟩
  obtain ⟨aj, cj, rfl, hJ1, _⟩ := cRow_cls hrow1
  simp only at hJ1 ⊢
  rw [hjl]
  clear hrow1
  go_wp2_with fail
  refine (HA.out _ hb1).mono ?_
  rintro e w2 ⟨rfl, hb2⟩
  simp only [cag]
  have h2 := below_then hb1 hb2
  have hal2 := (Below.refl w2.heap.size w2).alloc (Nat.le_refl _) (.cells #[.int .i64 y.kind, .int .u64 (y.num : Int), .string (str y.txt)] 38)
  have q2 := tri_new w2 (.int .i64 y.kind) (.int .u64 (y.num : Int)) (.string (str y.txt))
  have h3 := below_then h2 hal2
  have r3 := below_then hb2 hal2
  go_wp2_with fail
  refine (HO.out _ h3).mono ?_
  rintro e w4 ⟨v4, rfl, hrow4, hb4⟩
  obtain ⟨ak, ck, rfl, hK4, _⟩ := cRow_cls hrow4
  simp only at hK4 ⊢
  rw [hjl]
  clear hrow4
  have HK4 := Lib.hid hK4
  obtain ⟨bk, offk, rfl, hbk, hcc⟩ := hK4 HNE.out
  obtain ⟨t0, t1, t2⟩ := hcc i (by omega)
  rw [← HY.out] at t0 t1 t2
  have halz := (Below.refl w4.heap.size w4).alloc (Nat.le_refl _) (.cells #[.int .i64 0, .int .u64 0, .string ⟨#[]⟩] 38)
  have e0 := (halz.cell (p := ⟨bk, offk + i * 3, none⟩) hbk).trans t0
  have e1 := (halz.cell (p := ⟨bk, offk + i * 3 + 1, none⟩) hbk).trans t1
  have e2 := (halz.cell (p := ⟨bk, offk + i * 3 + 2, none⟩) hbk).trans t2
  have hal4 := (Below.refl w4.heap.size w4).alloc (Nat.le_refl _) (.cells #[.int .i64 y.kind, .int .u64 (y.num : Int), .string (str y.txt)] 38)
  have q4 := tri_new w4 (.int .i64 y.kind) (.int .u64 (y.num : Int)) (.string (str y.txt))
  have h5 := below_then (below_then h3 hb4) hal4
  have r5 := below_then (below_then r3 hb4) hal4
  have s5 := below_then hb4 hal4
  generalize y.kind = zk at *
  generalize y.num = zn at *
  generalize str y.txt = zx at *
  clear t0 t1 t2 hcc halz
  go_wp2_with fail
  refine (nbegun_any _).mono ?_
  rintro e w6 ⟨rfl, hb6⟩
  go_wp2_with fail
  refine (HSC.out _ _ _ _ _ (hJ1.next (below_then r5 hb6)) (HK4.out.next (below_then hal4 hb6))).mono ?_
  rintro e w7 ⟨rfl, hb7⟩
  have a7 := q2.next (below_then (below_then s5 hb6) hb7)
  have b7 := q4.next (below_then hb6 hb7)
  have a0 := a7.c0
  have a1 := a7.c1
  have a2 := a7.c2
  have b0 := b7.c0
  have b1 := b7.c1
  have b2 := b7.c2
  have h7 := below_then (below_then h5 hb6) hb7
  clear q2 q4 a7 b7 hal2 hal4 e0 e1 e2
  go_wp2_with fail
  go_ret
  exact ⟨rfl, h7⟩
end Go.Proofs.Ytocgimimmajjhaa
