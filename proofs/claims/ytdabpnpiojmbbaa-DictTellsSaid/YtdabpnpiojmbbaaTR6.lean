/- The law DictTells. -/
import Derived.Test.YtdabpnpiojmbbaaTR5
namespace Go.Proofs.Ytdabpnpiojmbbaa
open Go.RowKit
set_option linter.unusedVariables false

theorem fit_two {l : List (List UInt8)} (h : fitR l ≠ 0) : fitR l = 2 := by
  unfold fitR at h ⊢
  split
  · rfl
  · rename_i h2; rw [if_neg h2] at h; exact absurd rfl h

set_option maxHeartbeats 1000000 in
set_option maxRecDepth 100000 in
theorem dictTells_walk (w : World) (a : Option Addr) (c : Nat) (l : List (List UInt8)) (hm : l.length ≤ maxLen) (hcap : l.length ≤ c ∧ c ≤ maxLen ∧ (a = none → c = 0)) (hx : ∀ x ∈ l, x.length ≤ maxLen) (hu : Txts w w.heap.size a l)
    (a' : Option Addr) (c' : Nat) (b : List (List UInt8)) (hm' : b.length ≤ maxLen) (hcap' : b.length ≤ c' ∧ c' ≤ maxLen ∧ (a' = none → c' = 0)) (hx' : ∀ x ∈ b, x.length ≤ maxLen) (hu' : Txts w w.heap.size a' b)
    (hr : l.length * 16 ≤ 140737488351232) (hr' : b.length * 16 ≤ 140737488351232) :
    Calls Try.prog 3 #[.slice a l.length c, .slice a' b.length c'] w (BoolPost true w) := by
  have hof := dof_any a c l w hu
  have HBO := Lib.hid (fun W h => rbook_any a c l W hr hx h)
  have hmn := fun W h => many_any a c l W hm h
  have HDC := Lib.hid (fun W h => dcheck_any a' c' b W h)
  have HRC := Lib.hid (fun W h => rcheck_any a' c' b W hm' h)
  generalize bookR b = er at *
  unfold BookOfPost at HBO
  by_cases hf : fitR l ≠ 0
  · rw [ofR_bad hf, fit_two hf] at hof
    rw [decide_eq_true hf] at hmn
    have HOF := Lib.hid hof
    have HMN := Lib.hid hmn
    have HST := Lib.hid (fun W a1 c1 => show Calls Try.prog 13 #[.slice a1 0 c1, .slice none 0 0] W (BoolPost true W) from by
      have := tsame_any a1 none c1 0 [] [] W W.heap.size (Txts.nil _ _ _) (Txts.nil _ _ _) (by decide)
      rw [decide_eq_true rfl] at this; exact this)
    have HSN := Lib.hid (fun W a1 c1 => show Calls Try.prog 14 #[.slice a1 0 c1, .slice none 0 0] W (BoolPost true W) from by
      have := same_any a1 none c1 0 [] [] W W.heap.size (Nums.nil _ _ _) (Nums.nil _ _ _) (by decide)
      rw [decide_eq_true rfl] at this; exact this)
    clear hof hmn hf hx hx' hcap hcap'
    go_enter Try.func3, Try.ntmps3
    go_wp2_with fail
    refine (HOF.out).mono ?_
    rintro e w1 ⟨a1, c1, a2, c2, rfl, t1, n1, hb1⟩
    go_wp2_with fail
    refine (HBO.out _ (hu.next hb1)).mono ?_
    rintro e w2 ⟨a3, c3, a4, c4, rfl, t3, n4, hb2⟩
    have h2 := below_then hb1 hb2
    go_wp2_with fail
    refine (HMN.out _ (hu.next h2)).mono ?_
    rintro e w3 ⟨rfl, rfl⟩
    go_wp2_with fail
    refine (tbegun_any _).mono ?_
    rintro e w4 ⟨rfl, hb4⟩
    have h4 := below_then h2 hb4
    go_wp2_with fail
    refine (HST.out _ _ _).mono ?_
    rintro e w5 ⟨rfl, hb5⟩
    have h5 := below_then h4 hb5
    go_wp2_with fail
    refine (HSN.out _ _ _).mono ?_
    rintro e w6 ⟨rfl, hb6⟩
    have h6 := below_then h5 hb6
    go_wp2_with fail
    refine (HDC.out _ (hu'.next h6)).mono ?_
    rintro e w7 ⟨rfl, hb7⟩
    have h7 := below_then h6 hb7
    go_wp2_with fail
    refine (HRC.out _ (hu'.next h7)).mono ?_
    rintro e w8 ⟨rfl, d, rfl⟩
    go_wp2_with fail
    go_ret
    exact ⟨rfl, below_drewN h7 _⟩
  · have hf0 : fitR l = 0 := by omega
    rw [ofR_ok hf0] at hof
    rw [decide_eq_false hf] at hmn
    have hl64 := (fit_zero hf0).1
    have hbl := bk_length l
    have hml : (l.map (T.plc (T.bk l))).length = l.length := by simp
    have HOF := Lib.hid hof
    have HMN := Lib.hid hmn
    have HST := Lib.hid (fun W a1 c1 a2 c2 h1 h2 => show Calls Try.prog 13 #[.slice a1 (T.bk l).length c1, .slice a2 (T.bk l).length c2] W (BoolPost true W) from by
      have := tsame_any a1 a2 c1 c2 (T.bk l) (T.bk l) W W.heap.size h1 h2 (by omega)
      rw [decide_eq_true rfl] at this; exact this)
    have HSN := Lib.hid (fun W a1 c1 a2 c2 h1 h2 => show Calls Try.prog 14 #[.slice a1 (l.map (T.plc (T.bk l))).length c1, .slice a2 l.length c2] W (BoolPost true W) from by
      have := same_any a1 a2 c1 c2 (l.map (T.plc (T.bk l))) (l.map (T.plc (T.bk l))) W W.heap.size h1 h2 (by omega)
      rw [decide_eq_true rfl] at this
      have e : Value.slice a2 l.length c2 = Value.slice a2 (l.map (T.plc (T.bk l))).length c2 := by rw [hml]
      rw [e]; exact this)
    generalize l.map (T.plc (T.bk l)) = cs at *
    generalize T.bk l = bk at *
    clear hof hmn hf hf0 hx hx' hcap hcap' hml
    go_enter Try.func3, Try.ntmps3
    go_wp2_with fail
    refine (HOF.out).mono ?_
    rintro e w1 ⟨a1, c1, a2, c2, rfl, t1, n1, hb1⟩
    go_wp2_with fail
    refine (HBO.out _ (hu.next hb1)).mono ?_
    rintro e w2 ⟨a3, c3, a4, c4, rfl, t3, n4, hb2⟩
    have h2 := below_then hb1 hb2
    go_wp2_with fail
    refine (HMN.out _ (hu.next h2)).mono ?_
    rintro e w3 ⟨rfl, rfl⟩
    go_wp2_with fail
    refine (tbegun_any _).mono ?_
    rintro e w4 ⟨rfl, hb4⟩
    have h4 := below_then h2 hb4
    go_wp2_with fail
    refine (HST.out _ _ _ _ _ (t1.next (below_then hb2 hb4)) (t3.next hb4)).mono ?_
    rintro e w5 ⟨rfl, hb5⟩
    have h5 := below_then h4 hb5
    go_wp2_with fail
    refine (HSN.out _ _ _ _ _ (n1.next (below_then (below_then hb2 hb4) hb5)) (n4.next (below_then hb4 hb5))).mono ?_
    rintro e w6 ⟨rfl, hb6⟩
    have h6 := below_then h5 hb6
    go_wp2_with fail
    refine (HDC.out _ (hu'.next h6)).mono ?_
    rintro e w7 ⟨rfl, hb7⟩
    have h7 := below_then h6 hb7
    go_wp2_with fail
    refine (HRC.out _ (hu'.next h7)).mono ?_
    rintro e w8 ⟨rfl, d, rfl⟩
    go_wp2_with fail
    go_ret
    exact ⟨rfl, below_drewN h7 _⟩
end Go.Proofs.Ytdabpnpiojmbbaa
