/- The walks of hypostyleref.JoinOf, CellLess. -/
import Derived.Test.YtocgimimmajjhaaCR1
import Derived.Test.YtocgimimmajjhaaCW4
namespace Go.Proofs.Ytocgimimmajjhaa
open Go.RowKit
set_option linter.unusedVariables false

theorem join_snoc (m : List Bool) (l : List C.Cl) (j : Nat) (h : j < m.length) : (C.join m l).take (j + 1) = (C.join m l).take j ++ [if m.getD j false = true then l.getD (M.cnt (m.take j)) C.null else C.null] := by
  rw [ctake_succ _ j (by rw [C.join_length]; exact h), C.join_at m l j h]

set_option maxHeartbeats 2000000 in
set_option maxRecDepth 100000 in
theorem joinOf_any (k : Int) (am : Option Addr) (cm : Nat) (m : List Bool) (a : Option Addr) (c : Nat) (l : List C.Cl) (w : World) (hk64 : -9223372036854775808 ≤ k ∧ k ≤ 9223372036854775807) (hmm : m.length ≤ maxLen) (hum : Bools w w.heap.size am m) (hm : l.length ≤ maxLen) (hx : ∀ x ∈ l, cOk x) (hu : Cls w w.heap.size a l) :
    Calls Try.prog 18 #[.int .i64 k, .slice am m.length cm, .slice a l.length c] w (JoinPost (C.joinR k m l) w) := by
  have HC := Lib.hid (crcheck_any k a c l w hk64 hm hx hu)
  by_cases h1 : C.chk k l ≠ 0
  · have HR := Lib.hid (show C.joinR k m l = ([], C.chk k l) from if_pos h1)
    generalize C.joinR k m l = R at *
    generalize C.chk k l = er at *
    have g1 : ((er : Int) != 0) = true := by rw [bne_iff_ne]; omega
    clear hu hx h1 hum
    go_enter Try.func18, Try.ntmps18
    go_wp2_with fail
    refine (HC.out).mono ?_
    rintro e w1 ⟨rfl, hb1⟩
    go_wp2_with fail
    go_ret2
    rw [HR.out]
    exact ⟨.slice none 0 0, rfl, cnilRow _ _, hb1⟩
  have h1' : C.chk k l = 0 := Classical.not_not.1 h1
  obtain ⟨_, hl64, _⟩ := C.chk_ok h1'
  rw [h1'] at HC
  have HD := Lib.hid (fun w1 (hb : Below w.heap.size w w1) => denseOf_any a c l w1 (by omega) (hu.next hb))
  have hdl : (C.dense l).length ≤ l.length := List.length_filter_le _ _
  by_cases h2 : (C.dense l).length < l.length
  · have HR := Lib.hid (show C.joinR k m l = ([], 7) by unfold C.joinR; rw [if_neg h1, if_pos h2])
    generalize C.joinR k m l = R at *
    have g2 : decide (((C.dense l).length : Int) < (l.length : Int)) = true := decide_eq_true (by omega)
    generalize C.dense l = ds at *
    clear hu hx h1 h1' hum
    go_enter Try.func18, Try.ntmps18
    go_wp2_with fail
    refine (HC.out).mono ?_
    rintro e w1 ⟨rfl, hb1⟩
    go_wp2_with fail
    refine (HD.out w1 hb1).mono ?_
    rintro e w2 ⟨v, rfl, hrow, hb2⟩
    obtain ⟨a2, c2, rfl, _, _⟩ := cRow_cls hrow
    have hb3 := below_then hb1 hb2
    clear hrow
    go_wp2_with fail
    go_ret2
    rw [HR.out]
    exact ⟨.slice none 0 0, rfl, cnilRow _ _, hb3⟩
  have hdn : (C.dense l).length = l.length := by omega
  by_cases h3 : 64 < m.length
  · have HR := Lib.hid (show C.joinR k m l = ([], 2) by unfold C.joinR; rw [if_neg h1, if_neg h2, if_pos h3])
    generalize C.joinR k m l = R at *
    have g3 : decide ((64 : Int) < (m.length : Int)) = true := decide_eq_true (by omega)
    clear hu hx h1 h1' hum h2 hdl
    go_enter Try.func18, Try.ntmps18
    go_wp2_with fail
    refine (HC.out).mono ?_
    rintro e w1 ⟨rfl, hb1⟩
    go_wp2_with fail
    refine (HD.out w1 hb1).mono ?_
    rintro e w2 ⟨v, rfl, hrow, hb2⟩
    obtain ⟨a2, c2, rfl, _, _⟩ := cRow_cls hrow
    have hb3 := below_then hb1 hb2
    rw [hdn]
    clear hrow hdn
    go_wp2_with fail
    go_ret2
    rw [HR.out]
    exact ⟨.slice none 0 0, rfl, cnilRow _ _, hb3⟩
  have g3 : decide ((64 : Int) < (m.length : Int)) = false := decide_eq_false (by omega)
  have HN := Lib.hid (fun w1 (hb : Below w.heap.size w w1) => countOf_any am cm m.length m w1 w.heap.size hmm (Nat.le_refl _) (hum.below hb))
  rw [List.take_length] at HN
  by_cases h4 : M.cnt m ≠ l.length
  · have HR := Lib.hid (show C.joinR k m l = ([], 1) by unfold C.joinR; rw [if_neg h1, if_neg h2, if_neg h3, if_pos h4])
    generalize C.joinR k m l = R at *
    have g4 : ((M.cnt m : Int) != (l.length : Int)) = true := by rw [bne_iff_ne]; omega
    have hcl := M.cnt_le m
    generalize M.cnt m = n at *
    clear hu hx h1 h1' hum h2 hdl h4
    go_enter Try.func18, Try.ntmps18
    go_wp2_with fail
    refine (HC.out).mono ?_
    rintro e w1 ⟨rfl, hb1⟩
    go_wp2_with fail
    refine (HD.out w1 hb1).mono ?_
    rintro e w2 ⟨v, rfl, hrow, hb2⟩
    obtain ⟨a2, c2, rfl, _, _⟩ := cRow_cls hrow
    have hb3 := below_then hb1 hb2
    rw [hdn]
    clear hrow hdn
    go_wp2_with fail
    refine (HN.out _ hb3).mono ?_
    rintro e w3 ⟨rfl, rfl⟩
    go_wp2_with fail
    go_ret2
    rw [HR.out]
    exact ⟨.slice none 0 0, rfl, cnilRow _ _, hb3⟩
  have hcnt : M.cnt m = l.length := Classical.not_not.1 h4
  have HR := Lib.hid (show C.joinR k m l = (C.join m l, 0) by unfold C.joinR; rw [if_neg h1, if_neg h2, if_neg h3, if_neg h4])
  rw [hcnt] at HN
  have HU := Lib.hid hu
  have HM := Lib.hid hum
  have HJS := Lib.hid (fun j h => join_snoc m l j h)
  have HJL := Lib.hid (fun j => show ((C.join m l).take j).length ≤ j by rw [List.length_take]; omega)
  have HJA := Lib.hid (show (C.join m l).take m.length = C.join m l by rw [← C.join_length m l, List.take_length])
  have HCQ := Lib.hid (fun j (h : j < m.length) (hb : m.getD j false = true) => show M.cnt (m.take j) < l.length by
    have e := M.cnt_snoc m j h
    rw [hb, if_pos rfl] at e
    have := M.cnt_take_le m (j + 1)
    omega)
  have HCO := Lib.hid (fun j (h : j ≤ m.length) w1 (hb : Below w.heap.size w w1) => countOf_any am cm j m w1 w.heap.size hmm h (hum.below hb))
  generalize C.joinR k m l = R at *
  clear hu hx h1 h1' hum h2 hdl h4 hcnt
  go_enter Try.func18, Try.ntmps18
  go_wp2_with fail
  refine (HC.out).mono ?_
  rintro e w1 ⟨rfl, hb1⟩
  go_wp2_with fail
  refine (HD.out w1 hb1).mono ?_
  rintro e w2 ⟨v, rfl, hrow, hb2⟩
  obtain ⟨a2, c2, rfl, _, _⟩ := cRow_cls hrow
  have hb3 := below_then hb1 hb2
  rw [hdn]
  clear hrow hdn
  go_wp2_with fail
  refine (HN.out _ hb3).mono ?_
  rintro e w3 ⟨rfl, rfl⟩
  go_wp2_with fail
  go_loopw [9, 10] (fun v i wr => ∃ j : Nat, j ≤ m.length ∧ i = .int .i64 j ∧ CRow w.heap.size ((C.join m l).take j) v wr ∧ Below w.heap.size w wr) (fun _ i _ => m.length - (intOf i).toNat)
  case atStart => exact ⟨0, by omega, rfl, cnilRow _ _, hb3⟩
  case round =>
    obtain ⟨j, hj, rfl, hrow, hbw⟩ := hrel
    by_cases hlt : j < m.length
    · obtain ⟨mb, moff, rfl, hmb, hmc⟩ := HM.out (fun e => by rw [e] at hlt; simp at hlt)
      have k0 := (hbw.cell (p := ⟨mb, moff + j, none⟩) hmb).trans (hmc j hlt)
      have hs := HJS.out j hlt
      have hal := HJL.out j
      have HCJ := Lib.hid (HCO.out j hj wr hbw)
      have hcq := HCQ.out j hlt
      have hjI : (j : Int) < (m.length : Int) := by omega
      generalize (C.join m l).take j = acc at *
      generalize M.cnt (m.take j) = q at *
      have hlb : (acc.length + 1) * 32 ≤ 140737488355328 := by omega
      have HROW := Lib.hid hrow
      clear hmc hrow
      cases hb : m.getD j false with
      | false =>
        rw [hb] at k0 hs
        rw [if_neg (by simp)] at hs
        have HSN := Lib.hid hs
        have hb5 : w.heap.size ≤ (wr.alloc (.cells #[.int .i64 0, .int .u64 0, .string ⟨#[]⟩] 38)).heap.size := by have := hbw.size; simp; omega
        clear hs hb hcq
        go_wp2_with (at_builtin; refine wpList_append_onec rfl (.tmp 52) (.tmp 54) rfl w.heap.size _ acc rfl (HROW.out.alloc_ _) wr.heap.size C.null rfl (World.cell?_alloc_new _ _ _ _) (World.cell?_alloc_new _ _ _ _) (World.cell?_alloc_new _ _ _ _) hlb hb5 ?_)
        intro v' w5 hown5 hb5w hg5
        have hbw5 : Below w.heap.size w w5 := (hbw.alloc hbw.size _).trans hb5w
        clear hb5w hg5
        go_wp2_with fail
        exact ⟨⟨j + 1, by omega, by go_num, by rw [HSN.out]; exact hown5, hbw5⟩, by simp [intOf]; omega⟩
      | true =>
        rw [hb] at k0 hs
        rw [if_pos rfl] at hs
        have hq := hcq hb
        obtain ⟨b, off, rfl, hbb, hcc⟩ := HU.out (fun e => by rw [e] at hq; simp at hq)
        obtain ⟨t0, t1, t2⟩ := hcc q hq
        have c0 := (hbw.cell (p := ⟨b, off + q * 3, none⟩) hbb).trans t0
        have c1 := (hbw.cell (p := ⟨b, off + q * 3 + 1, none⟩) hbb).trans t1
        have c2' := (hbw.cell (p := ⟨b, off + q * 3 + 2, none⟩) hbb).trans t2
        obtain ⟨y, hy⟩ : ∃ y, y = l.getD q C.null := ⟨_, rfl⟩
        rw [← hy] at c0 c1 c2' hs
        obtain ⟨z, n, x⟩ := y
        simp only at c0 c1 c2' hs
        have HSN := Lib.hid hs
        generalize hX : str x = X at *
        have hb5 : w.heap.size ≤ (wr.alloc (.cells #[.int .i64 z, .int .u64 (n : Int), .string X] 38)).heap.size := by have := hbw.size; simp; omega
        have hqI : (q : Int) < (l.length : Int) := by omega
        have hq0 : (0 : Int) ≤ (q : Int) := by omega
        clear hs hb hcq t0 t1 t2 hcc hy
        go_wp2_with fail
        refine (HCJ.out).mono ?_
        rintro e w4 ⟨rfl, rfl⟩
        go_wp2_with (at_builtin; refine wpList_append_onec rfl (.tmp 43) (.tmp 50) rfl w.heap.size _ acc rfl (HROW.out.alloc_ _) wr.heap.size ⟨z, n, x⟩ rfl (World.cell?_alloc_new _ _ _ _) (World.cell?_alloc_new _ _ _ _) (by rw [hX]; exact World.cell?_alloc_new _ _ _ _) hlb hb5 ?_)
        intro v' w5 hown5 hb5w hg5
        have hbw5 : Below w.heap.size w w5 := (hbw.alloc hbw.size _).trans hb5w
        clear hb5w hg5
        go_wp2_with fail
        exact ⟨⟨j + 1, by omega, by go_num, by rw [HSN.out]; exact hown5, hbw5⟩, by simp [intOf]; omega⟩
    · obtain rfl : j = m.length := by omega
      rw [HJA.out] at hrow
      go_wp2_with fail
      go_ret2
      rw [HR.out]
      exact ⟨_, rfl, hrow, hbw⟩

set_option maxHeartbeats 2000000 in
set_option maxRecDepth 100000 in
theorem cellLess_any (a b : C.Cl) (w : World) (ha : a.txt.length ≤ maxLen) (hb : b.txt.length ≤ maxLen) : Calls Try.prog 20 #[cag a, cag b] w (BoolPost (C.less a b) w) := by
  have hbel : Below w.heap.size w ((w.alloc (.cells #[.int .i64 a.kind, .int .u64 (a.num : Int), .string (str a.txt)] 38)).alloc (.cells #[.int .i64 b.kind, .int .u64 (b.num : Int), .string (str b.txt)] 38)) := ((Below.refl _ _).alloc (Nat.le_refl _) _).alloc (by simp) _
  have HB := Lib.hid hbel
  have HTL := Lib.hid (fun W => tless_any a.txt b.txt W ha hb)
  clear hbel ha hb
  obtain ⟨ak, an, ax⟩ := a
  obtain ⟨bk, bn, bx⟩ := b
  unfold cag
  simp only at HB HTL ⊢
  by_cases h1 : ak = 0 ∧ bk ≠ 0
  · have HR := Lib.hid (show C.less ⟨ak, an, ax⟩ ⟨bk, bn, bx⟩ = true from if_pos h1)
    generalize C.less ⟨ak, an, ax⟩ ⟨bk, bn, bx⟩ = r at *
    obtain ⟨rfl, h1⟩ := h1
    have g1 : (bk != 0) = true := by rw [bne_iff_ne]; exact h1
    generalize str ax = X at *
    generalize str bx = Y at *
    clear h1
    go_enter Try.func20, Try.ntmps20
    go_wp2_with fail
    go_ret
    exact ⟨by rw [HR.out]; rfl, HB.out⟩
  by_cases h2 : bk = 0 ∧ ak ≠ 0
  · have HR := Lib.hid (show C.less ⟨ak, an, ax⟩ ⟨bk, bn, bx⟩ = false by unfold C.less; rw [if_neg h1, if_pos h2])
    generalize C.less ⟨ak, an, ax⟩ ⟨bk, bn, bx⟩ = r at *
    obtain ⟨rfl, h2⟩ := h2
    have g1 : (ak != 0) = true := by rw [bne_iff_ne]; exact h2
    have g2 : (ak == 0) = false := by rw [beq_eq_false_iff_ne]; exact h2
    generalize str ax = X at *
    generalize str bx = Y at *
    clear h1 h2
    go_enter Try.func20, Try.ntmps20
    go_wp2_with fail
    go_ret
    exact ⟨by rw [HR.out]; rfl, HB.out⟩
  by_cases h3 : ak = bk
  · subst h3
    have hz : (ak == 0) = false ∧ (ak != 0) = true ∨ ak = 0 := by
      by_cases h0 : ak = 0
      · exact Or.inr h0
      · exact Or.inl ⟨by rw [beq_eq_false_iff_ne]; exact h0, by rw [bne_iff_ne]; exact h0⟩
    by_cases h4 : an = bn
    · subst h4
      have HR := Lib.hid (show C.less ⟨ak, an, ax⟩ ⟨ak, an, bx⟩ = decide (ax < bx) by unfold C.less; rw [if_neg h1, if_neg h2, if_neg (by simp), if_neg (by simp)])
      generalize C.less ⟨ak, an, ax⟩ ⟨ak, an, bx⟩ = r at *
      rw [← HR.out] at HTL
      generalize str ax = X at *
      generalize str bx = Y at *
      clear h1 h2
      rcases hz with ⟨g1, g2⟩ | rfl
      all_goals
        go_enter Try.func20, Try.ntmps20
        go_wp2_with fail
        refine (HTL.out _).mono ?_
        rintro e w4 ⟨rfl, hd⟩
        have hbd : Below w.heap.size w w4 := by
          obtain ⟨d, rfl⟩ := hd
          exact below_drewN HB.out _
        clear hd
        go_wp2_with fail
        go_ret
        exact ⟨rfl, hbd⟩
    · have HR := Lib.hid (show C.less ⟨ak, an, ax⟩ ⟨ak, bn, bx⟩ = decide (an < bn) by unfold C.less; rw [if_neg h1, if_neg h2, if_neg (by simp), if_pos h4])
      have g4 : ((an : Int) != (bn : Int)) = true := by rw [bne_iff_ne]; omega
      generalize C.less ⟨ak, an, ax⟩ ⟨ak, bn, bx⟩ = r at *
      generalize str ax = X at *
      generalize str bx = Y at *
      clear h1 h2 h4
      rcases hz with ⟨g1, g2⟩ | rfl
      all_goals
        go_enter Try.func20, Try.ntmps20
        go_wp2_with fail
        go_ret
        exact ⟨by rw [HR.out]; rfl, HB.out⟩
  · have HR := Lib.hid (show C.less ⟨ak, an, ax⟩ ⟨bk, bn, bx⟩ = decide (ak < bk) by unfold C.less; rw [if_neg h1, if_neg h2, if_pos h3])
    have g4 : (ak != bk) = true := by rw [bne_iff_ne]; exact h3
    generalize C.less ⟨ak, an, ax⟩ ⟨bk, bn, bx⟩ = r at *
    have ha0 : ak ≠ 0 := fun e => by
      by_cases hb0 : bk = 0
      · exact h3 (by rw [e, hb0])
      · exact h1 ⟨e, hb0⟩
    have hb0 : bk ≠ 0 := fun e => h2 ⟨e, ha0⟩
    have g1 : (ak == 0) = false := by rw [beq_eq_false_iff_ne]; exact ha0
    have g2 : (bk == 0) = false := by rw [beq_eq_false_iff_ne]; exact hb0
    generalize str ax = X at *
    generalize str bx = Y at *
    clear h1 h2 h3 ha0 hb0
    go_enter Try.func20, Try.ntmps20
    go_wp2_with fail
    go_ret
    exact ⟨by rw [HR.out]; rfl, HB.out⟩
end Go.Proofs.Ytocgimimmajjhaa
