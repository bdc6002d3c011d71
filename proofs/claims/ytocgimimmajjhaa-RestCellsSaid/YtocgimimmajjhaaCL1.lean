/- The laws NullsTell, NullsBack, NullsJoin. -/
import Derived.Test.YtocgimimmajjhaaCR2
import Derived.Test.YtocgimimmajjhaaCB
namespace Go.Proofs.Ytocgimimmajjhaa
open Go.RowKit
set_option linter.unusedVariables false

theorem msame_len2 (n : Nat) (ms : List Bool) (hn : ms.length = n ∧ n ≤ 64) (am a2 : Option Addr) (cm c2 : Nat) (W : World) (h1 : Bools W W.heap.size am ms) (h2 : Bools W W.heap.size a2 ms) : Calls Try.prog 12 #[.slice am n cm, .slice a2 n c2] W (BoolPost true W) := by
  have h := msame_any am a2 cm c2 ms ms W _ h1 h2 (by omega)
  rw [decide_eq_true rfl, hn.1] at h; exact h
theorem csame_len2 (n : Nat) (ms : List C.Cl) (hn : ms.length = n ∧ n ≤ 64) (am a2 : Option Addr) (cm c2 : Nat) (W : World) (h1 : Cls W W.heap.size am ms) (h2 : Cls W W.heap.size a2 ms) : Calls Try.prog 14 #[.slice am n cm, .slice a2 n c2] W (BoolPost true W) := by
  have h := csame_any am a2 cm c2 ms ms W _ h1 h2 (by omega)
  rw [decide_eq_true rfl, hn.1] at h; exact h
theorem dense_mem {l : List C.Cl} (hx : ∀ x ∈ l, cOk x) : ∀ x ∈ C.dense l, cOk x := fun x h => hx x (List.mem_filter.1 h).1

set_option maxHeartbeats 1000000 in
set_option maxRecDepth 100000 in
theorem nullsTell_walk (w : World) (k : Int) (hk : -9223372036854775808 ≤ k ∧ k ≤ 9223372036854775807) (a : Option Addr) (c : Nat) (l : List C.Cl) (hm : l.length ≤ maxLen) (hcap : l.length ≤ c ∧ c ≤ maxLen ∧ (a = none → c = 0)) (hx : ∀ x ∈ l, cOk x) (hu : Cls w w.heap.size a l) :
    Calls Try.prog 3 #[.int .i64 k, .slice a l.length c] w (BoolPost true w) := by
  have HS := Lib.hid (nsplit_any k a c l w hm hx hu)
  have HR := Lib.hid (fun W (hb : Below w.heap.size w W) => crcheck_any k a c l W hk hm hx (hu.next hb))
  have HC := Lib.hid (fun W (hb : Below w.heap.size w W) => ncheck_any k a c l W hm hx (hu.next hb))
  by_cases h1 : C.chk k l ≠ 0
  · rw [show splitR k l = ([], [], C.chk k l) from if_pos h1] at HS
    generalize C.chk k l = er at *
    have g1 : ((er : Int) != 0) = true := by rw [bne_iff_ne]; omega
    have g2 : ((er : Int) != (er : Int)) = false := by simp
    clear hu hx h1 hcap hm
    go_enter Try.func3, Try.ntmps3
    go_wp2_with fail
    refine (HS.out).mono ?_
    rintro e w1 ⟨am, cm, v, rfl, hM, hqm, hrow, hb1⟩
    obtain ⟨ad, cd, rfl, hD, hqd⟩ := cRow_cls hrow
    clear hM hqm hrow hD hqd
    go_wp2_with fail
    refine (HR.out _ hb1).mono ?_
    rintro e w2 ⟨rfl, hb2⟩
    have h2 := below_then hb1 hb2
    go_wp2_with fail
    refine (nbegun_any _).mono ?_
    rintro e w3 ⟨rfl, hb3⟩
    have h3 := below_then h2 hb3
    go_wp2_with fail
    refine (HC.out _ h3).mono ?_
    rintro e w4 ⟨rfl, hb4⟩
    have h4 := below_then h3 hb4
    go_wp2_with fail
    go_ret
    exact ⟨rfl, h4⟩
  have h1' : C.chk k l = 0 := Classical.not_not.1 h1
  obtain ⟨_, hl64, _⟩ := C.chk_ok h1'
  rw [show splitR k l = (l.map C.here, C.dense l, 0) from if_neg h1] at HS
  rw [h1'] at HR HC
  have HT := Lib.hid (fun W (hb : Below w.heap.size w W) => thereOf_any a c l W (by omega) (hu.next hb))
  have HD := Lib.hid (fun W (hb : Below w.heap.size w W) => denseOf_any a c l W (by omega) (hu.next hb))
  have HSM := Lib.hid (msame_len2 l.length (l.map C.here) ⟨by simp, hl64⟩)
  have hml : (l.map C.here).length = l.length := List.length_map ..
  have HSC := Lib.hid (csame_len2 (C.dense l).length (C.dense l) ⟨rfl, Nat.le_trans (List.length_filter_le _ _) hl64⟩)
  clear hu hx h1 h1' hm hcap
  generalize l.map C.here = ms at *
  generalize C.dense l = ds at *
  go_enter Try.func3, Try.ntmps3
  go_wp2_with fail
  refine (HS.out).mono ?_
  rintro e w1 ⟨am, cm, v, rfl, hM, hqm, hrow, hb1⟩
  obtain ⟨ad, cd, rfl, hD, hqd⟩ := cRow_cls hrow
  simp only at hM hD
  clear hqm hrow hqd
  have HM := Lib.hid hM
  have HDD := Lib.hid hD
  clear hM hD
  go_wp2_with fail
  refine (HR.out _ hb1).mono ?_
  rintro e w2 ⟨rfl, hb2⟩
  have h2 := below_then hb1 hb2
  go_wp2_with fail
  refine (nbegun_any _).mono ?_
  rintro e w3 ⟨rfl, hb3⟩
  have h3 := below_then h2 hb3
  go_wp2_with fail
  refine (HC.out _ h3).mono ?_
  rintro e w4 ⟨rfl, hb4⟩
  have h4 := below_then h3 hb4
  go_wp2_with fail
  refine (HT.out _ h4).mono ?_
  rintro e w5 ⟨v5, rfl, hrow5, hb5⟩
  obtain ⟨a5, c5, rfl, hM5, _⟩ := markRow_slice2 hrow5
  have h5 := below_then h4 hb5
  have hr5 : Below w1.heap.size w1 w5 := below_then (below_then (below_then hb2 hb3) hb4) hb5
  rw [hml]
  go_wp2_with fail
  refine (HSM.out _ _ _ _ _ (HM.out.next hr5) hM5).mono ?_
  rintro e w6 ⟨rfl, hb6⟩
  have h6 := below_then h5 hb6
  go_wp2_with fail
  refine (HD.out _ h6).mono ?_
  rintro e w7 ⟨v7, rfl, hrow7, hb7⟩
  obtain ⟨a7, c7, rfl, hD7, _⟩ := cRow_cls hrow7
  have h7 := below_then h6 hb7
  have hr7 : Below w1.heap.size w1 w7 := below_then (below_then hr5 hb6) hb7
  go_wp2_with fail
  refine (HSC.out _ _ _ _ _ (HDD.out.next hr7) hD7).mono ?_
  rintro e w8 ⟨rfl, hb8⟩
  go_wp2_with fail
  go_ret
  exact ⟨rfl, below_then h7 hb8⟩

set_option maxHeartbeats 1000000 in
set_option maxRecDepth 100000 in
theorem nullsBack_walk (w : World) (k : Int) (hk : -9223372036854775808 ≤ k ∧ k ≤ 9223372036854775807) (a : Option Addr) (c : Nat) (l : List C.Cl) (hm : l.length ≤ maxLen) (hcap : l.length ≤ c ∧ c ≤ maxLen ∧ (a = none → c = 0)) (hx : ∀ x ∈ l, cOk x) (hu : Cls w w.heap.size a l) (p : Int) (hp : -9223372036854775808 ≤ p ∧ p ≤ 9223372036854775807) :
    Calls Try.prog 5 #[.int .i64 k, .slice a l.length c, .int .i64 p] w (BoolPost true w) := by
  have HS := Lib.hid (nsplit_any k a c l w hm hx hu)
  by_cases h1 : C.chk k l ≠ 0
  · rw [show splitR k l = ([], [], C.chk k l) from if_pos h1] at HS
    generalize C.chk k l = er at *
    have g1 : ((er : Int) != 0) = true := by rw [bne_iff_ne]; omega
    clear hu hx h1 hcap hm
    go_enter Try.func5, Try.ntmps5
    go_wp2_with fail
    refine (HS.out).mono ?_
    rintro e w1 ⟨am, cm, v, rfl, hM, hqm, hrow, hb1⟩
    obtain ⟨ad, cd, rfl, hD, hqd⟩ := cRow_cls hrow
    clear hM hqm hrow hD hqd
    go_wp2_with fail
    refine (nbegun_any _).mono ?_
    rintro e w3 ⟨rfl, hb3⟩
    have h3 := below_then hb1 hb3
    go_wp2_with fail
    go_ret
    exact ⟨rfl, h3⟩
  have h1' : C.chk k l = 0 := Classical.not_not.1 h1
  obtain ⟨_, hl64, _⟩ := C.chk_ok h1'
  rw [show splitR k l = (l.map C.here, C.dense l, 0) from if_neg h1] at HS
  have hml : (l.map C.here).length = l.length := List.length_map ..
  have hdl : (C.dense l).length ≤ 64 := Nat.le_trans (List.length_filter_le _ _) hl64
  have HJ := Lib.hid (fun W am cm ad cd (hm : Bools W W.heap.size am (l.map C.here)) (hq : (C.dense l).length ≤ cd ∧ cd ≤ maxLen ∧ (ad = none → cd = 0)) (hd : Cls W W.heap.size ad (C.dense l)) => njoin_any k am cm (l.map C.here) ad cd (C.dense l) W (by unfold maxLen; omega) hm (by unfold maxLen; omega) hq (dense_mem hx) hd)
  rw [C.joinR_back h1'] at HJ
  have HA := Lib.hid (fun W am cm ad cd (hqm : (l.map C.here).length ≤ cm ∧ cm ≤ maxLen ∧ (am = none → cm = 0)) (hm : Bools W W.heap.size am (l.map C.here)) (hd : Cls W W.heap.size ad (C.dense l)) => nat_any k p am cm (l.map C.here) ad cd (C.dense l) W hqm hm (by unfold maxLen; omega) (dense_mem hx) hd)
  have hf0 : fitC k (l.map C.here) (C.dense l) = 0 ∧ C.join (l.map C.here) (C.dense l) = l := by
    have e := fitC_join k (l.map C.here) (C.dense l)
    rw [C.joinR_back h1'] at e
    by_cases h : fitC k (l.map C.here) (C.dense l) ≠ 0
    · rw [if_pos h] at e
      exact absurd (congrArg Prod.snd e).symm h
    · rw [if_neg h] at e
      exact ⟨Classical.not_not.1 h, (congrArg Prod.fst e).symm⟩
  have HAV := Lib.hid (show 0 ≤ p → p < (l.length : Int) → atR k (l.map C.here) (C.dense l) p = (l.getD p.toNat C.null, 0) from fun h1 h2 => by
    unfold atR; rw [if_neg (by simp [hf0.1]), if_neg (by rw [hml]; omega), hf0.2])
  have HSC := Lib.hid (csame_len2 l.length l ⟨rfl, hl64⟩)
  have HU := Lib.hid hu
  rw [hml] at HJ HA
  clear hu hx h1 h1' hm hcap hf0
  generalize l.map C.here = ms at *
  generalize C.dense l = ds at *
  have hpc : decide (p < 0) = true ∨ decide (p < 0) = false ∧ decide ((l.length : Int) ≤ p) = true ∨ (0 ≤ p ∧ p < (l.length : Int)) := by
    by_cases h0 : p < 0
    · exact Or.inl (decide_eq_true h0)
    · by_cases h2 : (l.length : Int) ≤ p
      · exact Or.inr (Or.inl ⟨decide_eq_false h0, decide_eq_true h2⟩)
      · exact Or.inr (Or.inr ⟨by omega, by omega⟩)
  rcases hpc with g1 | ⟨g1, g2⟩ | ⟨p0, p1⟩
  · go_enter Try.func5, Try.ntmps5
    go_wp2_with fail
    refine (HS.out).mono ?_
    rintro e w1 ⟨am, cm, v, rfl, hM, hqm, hrow, hb1⟩
    obtain ⟨ad, cd, rfl, hD, hqd⟩ := cRow_cls hrow
    simp only at hM hD hqm hqd ⊢
    rw [hml] at hqm ⊢
    have HM := Lib.hid hM
    have HDD := Lib.hid hD
    have HQM := Lib.hid hqm
    have HQD := Lib.hid hqd
    clear hM hD hqm hqd hrow
    go_wp2_with fail
    refine (nbegun_any _).mono ?_
    rintro e w3 ⟨rfl, hb3⟩
    have h3 := below_then hb1 hb3
    go_wp2_with fail
    refine (HJ.out _ _ _ _ _ (HM.out.next hb3) HQD.out (HDD.out.next hb3)).mono ?_
    rintro e w4 ⟨v4, rfl, hrow4, hb4⟩
    obtain ⟨a4, c4, rfl, hJ4, _⟩ := cRow_cls hrow4
    have h4 := below_then h3 hb4
    clear hrow4
    go_wp2_with fail
    refine (HSC.out _ _ _ _ _ hJ4 (HU.out.next h4)).mono ?_
    rintro e w5 ⟨rfl, hb5⟩
    have h5 := below_then h4 hb5
    go_wp2_with fail
    go_ret
    exact ⟨rfl, h5⟩
  · go_enter Try.func5, Try.ntmps5
    go_wp2_with fail
    refine (HS.out).mono ?_
    rintro e w1 ⟨am, cm, v, rfl, hM, hqm, hrow, hb1⟩
    obtain ⟨ad, cd, rfl, hD, hqd⟩ := cRow_cls hrow
    simp only at hM hD hqm hqd ⊢
    rw [hml] at hqm ⊢
    have HM := Lib.hid hM
    have HDD := Lib.hid hD
    have HQM := Lib.hid hqm
    have HQD := Lib.hid hqd
    clear hM hD hqm hqd hrow
    go_wp2_with fail
    refine (nbegun_any _).mono ?_
    rintro e w3 ⟨rfl, hb3⟩
    have h3 := below_then hb1 hb3
    go_wp2_with fail
    refine (HJ.out _ _ _ _ _ (HM.out.next hb3) HQD.out (HDD.out.next hb3)).mono ?_
    rintro e w4 ⟨v4, rfl, hrow4, hb4⟩
    obtain ⟨a4, c4, rfl, hJ4, _⟩ := cRow_cls hrow4
    have h4 := below_then h3 hb4
    clear hrow4
    go_wp2_with fail
    refine (HSC.out _ _ _ _ _ hJ4 (HU.out.next h4)).mono ?_
    rintro e w5 ⟨rfl, hb5⟩
    have h5 := below_then h4 hb5
    go_wp2_with fail
    go_ret
    exact ⟨rfl, h5⟩
  · obtain ⟨i, rfl⟩ : ∃ i : Nat, p = i := ⟨p.toNat, by omega⟩
    have hi : i < l.length := by omega
    have hav := HAV.out p0 p1
    rw [hav, Int.toNat_natCast] at HA
    have g1 : decide ((i : Int) < 0) = false := decide_eq_false (by omega)
    have g2 : decide ((l.length : Int) ≤ (i : Int)) = false := decide_eq_false (by omega)
    obtain ⟨b, off, rfl, hbb, hcc⟩ := HU.out (fun e => by rw [e] at hi; simp at hi)
    obtain ⟨t0, t1, t2⟩ := hcc i hi
    have heq := fun w => cell_eql_cell w (l.getD i C.null) (l.getD i C.null)
    rw [decide_eq_true rfl] at heq
    obtain ⟨y, hy⟩ : ∃ y, y = l.getD i C.null := ⟨_, rfl⟩
    rw [← hy] at t0 t1 t2 heq HA
    clear HAV hav hcc hy hp
    go_enter Try.func5, Try.ntmps5
    go_wp2_with fail
    refine (HS.out).mono ?_
    rintro e w1 ⟨am, cm, v, rfl, hM, hqm, hrow, hb1⟩
    obtain ⟨ad, cd, rfl, hD, hqd⟩ := cRow_cls hrow
    simp only at hM hD hqm hqd ⊢
    rw [hml] at hqm ⊢
    have HM := Lib.hid hM
    have HDD := Lib.hid hD
    have HQM := Lib.hid hqm
    have HQD := Lib.hid hqd
    clear hM hD hqm hqd hrow
    go_wp2_with fail
    refine (nbegun_any _).mono ?_
    rintro e w3 ⟨rfl, hb3⟩
    have h3 := below_then hb1 hb3
    go_wp2_with fail
    refine (HJ.out _ _ _ _ _ (HM.out.next hb3) HQD.out (HDD.out.next hb3)).mono ?_
    rintro e w4 ⟨v4, rfl, hrow4, hb4⟩
    obtain ⟨a4, c4, rfl, hJ4, _⟩ := cRow_cls hrow4
    have h4 := below_then h3 hb4
    clear hrow4
    go_wp2_with fail
    refine (HSC.out _ _ _ _ _ hJ4 (HU.out.next h4)).mono ?_
    rintro e w5 ⟨rfl, hb5⟩
    have h5 := below_then h4 hb5
    have hr5 : Below w1.heap.size w1 w5 := below_then (below_then hb3 hb4) hb5
    go_wp2_with fail
    refine (HA.out _ _ _ _ _ HQM.out (HM.out.next hr5) (HDD.out.next hr5)).mono ?_
    rintro e w6 ⟨rfl, hb6⟩
    have h6 := below_then h5 hb6
    unfold cag at heq ⊢
    have d0 := (h6.cell (p := ⟨b, off + i * 3, none⟩) hbb).trans t0
    have d1 := (h6.cell (p := ⟨b, off + i * 3 + 1, none⟩) hbb).trans t1
    have d2 := (h6.cell (p := ⟨b, off + i * 3 + 2, none⟩) hbb).trans t2
    have hbs : b < w6.heap.size := Nat.lt_of_lt_of_le hbb h6.size
    have hne : ¬ b = w6.heap.size := by omega
    have q := tri_new w6 (.int .i64 y.kind) (.int .u64 (y.num : Int)) (.string (str y.txt))
    have hal := (Below.refl w6.heap.size w6).alloc (Nat.le_refl _) (.cells #[.int .i64 y.kind, .int .u64 (y.num : Int), .string (str y.txt)] 38)
    have e0 := (hal.cell (p := ⟨b, off + i * 3, none⟩) hbs).trans d0
    have e1 := (hal.cell (p := ⟨b, off + i * 3 + 1, none⟩) hbs).trans d1
    have e2 := (hal.cell (p := ⟨b, off + i * 3 + 2, none⟩) hbs).trans d2
    have q0 := q.c0
    have q1 := q.c1
    have q2 := q.c2
    have h7 := h6.alloc h6.size (.cells #[.int .i64 y.kind, .int .u64 (y.num : Int), .string (str y.txt)] 38)
    have hgd := guards_cell .eql
    generalize y.kind = zk at *
    generalize y.num = zn at *
    generalize str y.txt = zx at *
    clear t0 t1 t2 d0 d1 d2 q hal
    go_wp2_with fail
    go_quiet (fail)
    clear heq hgd
    go_wp2_with fail
    go_ret
    exact ⟨rfl, below_drewN h7 _⟩
end Go.Proofs.Ytocgimimmajjhaa
