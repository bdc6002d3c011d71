/- The laws DictOrder, DictSpans. -/
import Derived.Test.YtdabpnpiojmbbaaTL1
import Derived.Test.YtdabpnpiojmbbaaTCq
namespace Go.Proofs.Ytdabpnpiojmbbaa
open Go.RowKit
set_option linter.unusedVariables false

theorem tmem (l : List (List UInt8)) (k : Nat) (hk : k < l.length) : l.getD k [] ∈ l := by
  simp only [List.getD, List.getElem?_eq_getElem hk, Option.getD_some]
  exact List.getElem_mem hk
theorem code_at (f : List UInt8 → Nat) (l : List (List UInt8)) (k : Nat) (hk : k < l.length) : (l.map f).getD k 0 = f (l.getD k []) := by
  simp [List.getD, hk]

set_option maxHeartbeats 1000000 in
set_option maxRecDepth 100000 in
theorem dictOrder_out (w : World) (a : Option Addr) (c : Nat) (l : List (List UInt8)) (hu : Txts w w.heap.size a l)
    (i k : Int) (hl64 : fitR l = 0 → l.length ≤ 64) (hout : fitR l ≠ 0 ∨ i < 0 ∨ (l.length : Int) ≤ i ∨ k < 0 ∨ (l.length : Int) ≤ k) :
    Calls Try.prog 6 #[.slice a l.length c, .int .i64 i, .int .i64 k] w (BoolPost true w) := by
  have hof := dof_any a c l w hu
  by_cases hf : fitR l ≠ 0
  · rw [ofR_bad hf] at hof
    have HOF := Lib.hid hof
    generalize fitR l = er at *
    have g1 : ((er : Int) != 0) = true := by rw [bne_iff_ne]; omega
    clear hof hf hout hl64
    go_enter Try.func6, Try.ntmps6
    go_wp2_with fail
    refine (HOF.out).mono ?_
    rintro e w1 ⟨a1, c1, a2, c2, rfl, t1, n1, hb1⟩
    go_wp2_with fail
    refine (tbegun_any _).mono ?_
    rintro e w2 ⟨rfl, hb2⟩
    go_wp2_with fail
    go_ret
    exact ⟨rfl, below_then hb1 hb2⟩
  have hf0 : fitR l = 0 := by omega
  rw [ofR_ok hf0] at hof
  have hl := hl64 hf0
  replace hout := hout.resolve_left hf
  have HOF := Lib.hid hof
  generalize l.map (T.plc (T.bk l)) = cs at *
  generalize T.bk l = b at *
  clear hof hf hf0 hl64
  by_cases h1 : i < 0
  · have g1 : decide (i < 0) = true := decide_eq_true h1
    clear hout
    go_enter Try.func6, Try.ntmps6
    go_wp2_with fail
    refine (HOF.out).mono ?_
    rintro e w1 ⟨a1, c1, a2, c2, rfl, t1, n1, hb1⟩
    go_wp2_with fail
    refine (tbegun_any _).mono ?_
    rintro e w2 ⟨rfl, hb2⟩
    go_wp2_with fail
    go_ret
    exact ⟨rfl, below_then hb1 hb2⟩
  have g1 : decide (i < 0) = false := decide_eq_false h1
  by_cases h2 : (l.length : Int) ≤ i
  · have g2 : decide ((l.length : Int) ≤ i) = true := decide_eq_true h2
    clear hout
    go_enter Try.func6, Try.ntmps6
    go_wp2_with fail
    refine (HOF.out).mono ?_
    rintro e w1 ⟨a1, c1, a2, c2, rfl, t1, n1, hb1⟩
    go_wp2_with fail
    refine (tbegun_any _).mono ?_
    rintro e w2 ⟨rfl, hb2⟩
    go_wp2_with fail
    go_ret
    exact ⟨rfl, below_then hb1 hb2⟩
  have g2 : decide ((l.length : Int) ≤ i) = false := decide_eq_false h2
  by_cases h3 : k < 0
  · have g3 : decide (k < 0) = true := decide_eq_true h3
    clear hout
    go_enter Try.func6, Try.ntmps6
    go_wp2_with fail
    refine (HOF.out).mono ?_
    rintro e w1 ⟨a1, c1, a2, c2, rfl, t1, n1, hb1⟩
    go_wp2_with fail
    refine (tbegun_any _).mono ?_
    rintro e w2 ⟨rfl, hb2⟩
    go_wp2_with fail
    go_ret
    exact ⟨rfl, below_then hb1 hb2⟩
  have g3 : decide (k < 0) = false := decide_eq_false h3
  have h4 : (l.length : Int) ≤ k := by omega
  have g4 : decide ((l.length : Int) ≤ k) = true := decide_eq_true h4
  clear hout
  go_enter Try.func6, Try.ntmps6
  go_wp2_with fail
  refine (HOF.out).mono ?_
  rintro e w1 ⟨a1, c1, a2, c2, rfl, t1, n1, hb1⟩
  go_wp2_with fail
  refine (tbegun_any _).mono ?_
  rintro e w2 ⟨rfl, hb2⟩
  go_wp2_with fail
  go_ret
  exact ⟨rfl, below_then hb1 hb2⟩

set_option maxHeartbeats 2000000 in
set_option maxRecDepth 100000 in
theorem dictOrder_in (w : World) (a : Option Addr) (c : Nat) (l : List (List UInt8)) (hu : Txts w w.heap.size a l)
    (i k : Nat) (hf : fitR l = 0) (hi : i < l.length) (hk : k < l.length) :
    Calls Try.prog 6 #[.slice a l.length c, .int .i64 i, .int .i64 k] w (BoolPost true w) := by
  have hof := dof_any a c l w hu
  have hl64 := (fit_zero hf).1
  rw [ofR_ok hf] at hof
  have HOF := Lib.hid hof
  have hcq := fun W a c n h => dcheck_quiet a c (T.bk l) W n h
  rw [book_bk hf] at hcq
  have HCQ := Lib.hid hcq
  have hlt := T.plc_lt (T.bk_up l) ((T.bk_mem l _).2 (tmem l i hi)) ((T.bk_mem l _).2 (tmem l k hk))
  have heq := T.plc_eq (T.bk_up l) ((T.bk_mem l _).2 (tmem l i hi)) ((T.bk_mem l _).2 (tmem l k hk))
  have hci := code_at (T.plc (T.bk l)) l i hi
  have hck := code_at (T.plc (T.bk l)) l k hk
  have hpi := T.plc_le (T.bk l) (l.getD i [])
  have hpk := T.plc_le (T.bk l) (l.getD k [])
  have hbl := bk_length l
  have hcl : (l.map (T.plc (T.bk l))).length = l.length := by simp
  obtain ⟨b1, o1, rfl, hb1l, hcc1⟩ := hu (fun e => by rw [e] at hi; simp at hi)
  have ci := hcc1 i hi
  have ck := hcc1 k hk
  have hte := tl_eq (l.getD i []) (l.getD k [])
  have htl := less_eq (l.getD i []) (l.getD k [])
  generalize T.plc (T.bk l) (l.getD i []) = p at *
  generalize T.plc (T.bk l) (l.getD k []) = q at *
  generalize l.map (T.plc (T.bk l)) = cs at *
  have q1 : decide (p < q) = decide (l.getD i [] < l.getD k []) := by rw [decide_eq_decide]; exact hlt
  have q2 : ((p : Int) == (q : Int)) = decide (l.getD i [] = l.getD k []) := by
    rw [Bool.eq_iff_iff, beq_iff_eq, decide_eq_true_iff, ← heq]; omega
  generalize decide (l.getD i [] < l.getD k []) = d1 at *
  generalize decide (l.getD i [] = l.getD k []) = d2 at *
  generalize l.getD i [] = x at *
  generalize l.getD k [] = y at *
  have HLN := Lib.hid hcl
  have HN2 := Lib.hid (fun (w : World) (a : Option Addr) (h : Nums w w.heap.size a cs) => (show ∃ b o, a = some ⟨b, o, none⟩ ∧ w.cell? ⟨b, o + i, none⟩ = some (.int .u64 (p : Nat)) ∧ w.cell? ⟨b, o + k, none⟩ = some (.int .u64 (q : Nat)) by
    obtain ⟨b2, o2, e, _, hcc⟩ := h (fun e => by rw [e] at hcl; simp at hcl; omega)
    refine ⟨b2, o2, e, ?_, ?_⟩
    · rw [hcc i (by omega), hci]
    · rw [hcc k (by omega), hck]))
  have g0 : ((cs.length : Int) == (l.length : Int)) = true := by rw [beq_iff_eq]; omega
  have gi : (i : Int) < (l.length : Int) := by omega
  have gk : (k : Int) < (l.length : Int) := by omega
  have gi2 : (i : Int) < (cs.length : Int) := by omega
  have gk2 : (k : Int) < (cs.length : Int) := by omega
  generalize T.bk l = b at *
  generalize str x = X at *
  generalize str y = Y at *
  clear hof hcq hlt heq hci hck hcc1 hf hcl hpi hpk hbl HLN
  cases d1
  all_goals cases d2
  all_goals
    go_enter Try.func6, Try.ntmps6
    go_wp2_with fail
    refine (HOF.out).mono ?_
    rintro e w1 ⟨a1, c1, a2, c2, rfl, t1, n1, hb1⟩
    go_wp2_with fail
    refine (tbegun_any _).mono ?_
    rintro e w2 ⟨rfl, hb2⟩
    have h2 := below_then hb1 hb2
    have HT := Lib.hid (t1.next hb2)
    obtain ⟨b2, o2, rfl, n2i, n2k⟩ := HN2.out w2 a2 (n1.next hb2)
    have ci2 := (h2.cell (p := ⟨b1, o1 + i, none⟩) hb1l).trans ci
    have ck2 := (h2.cell (p := ⟨b1, o1 + k, none⟩) hb1l).trans ck
    have HH2 := Lib.hid h2
    clear t1 n1 hb1 hb2 h2
    go_wp2_with fail
    go_quiet ((go_at_call 15; exact HCQ.out _ _ _ _ HT.out))
    go_wp2_with fail
    go_ret
    exact ⟨rfl, below_drewN HH2.out _⟩

theorem dictOrder_walk (w : World) (a : Option Addr) (c : Nat) (l : List (List UInt8)) (hm : l.length ≤ maxLen) (hcap : l.length ≤ c ∧ c ≤ maxLen ∧ (a = none → c = 0)) (hx : ∀ x ∈ l, x.length ≤ maxLen) (hu : Txts w w.heap.size a l)
    (i : Int) (hi : -9223372036854775808 ≤ i ∧ i ≤ 9223372036854775807) (k : Int) (hk : -9223372036854775808 ≤ k ∧ k ≤ 9223372036854775807) :
    Calls Try.prog 6 #[.slice a l.length c, .int .i64 i, .int .i64 k] w (BoolPost true w) := by
  by_cases hout : fitR l ≠ 0 ∨ i < 0 ∨ (l.length : Int) ≤ i ∨ k < 0 ∨ (l.length : Int) ≤ k
  · exact dictOrder_out w a c l hu i k (fun h => (fit_zero h).1) hout
  · obtain ⟨i, rfl⟩ : ∃ j : Nat, i = j := ⟨i.toNat, by omega⟩
    obtain ⟨k, rfl⟩ : ∃ j : Nat, k = j := ⟨k.toNat, by omega⟩
    exact dictOrder_in w a c l hu i k (by omega) (by omega) (by omega)
end Go.Proofs.Ytdabpnpiojmbbaa
