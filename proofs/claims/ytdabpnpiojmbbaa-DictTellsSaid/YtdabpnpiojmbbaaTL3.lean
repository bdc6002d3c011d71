/- The law DictSpans. -/
import Derived.Test.YtdabpnpiojmbbaaTL2
namespace Go.Proofs.Ytdabpnpiojmbbaa
open Go.RowKit
set_option linter.unusedVariables false

set_option maxHeartbeats 1000000 in
set_option maxRecDepth 100000 in
theorem dictSpans_out (w : World) (a : Option Addr) (c : Nat) (l : List (List UInt8)) (hu : Txts w w.heap.size a l) (lo hi : ByteArray)
    (i : Int) (hl64 : fitR l = 0 → l.length ≤ 64) (hout : fitR l ≠ 0 ∨ i < 0 ∨ (l.length : Int) ≤ i) :
    Calls Try.prog 8 #[.slice a l.length c, .string lo, .string hi, .int .i64 i] w (BoolPost true w) := by
  have hof := dof_any a c l w hu
  by_cases hf : fitR l ≠ 0
  · rw [ofR_bad hf] at hof
    have HOF := Lib.hid hof
    generalize fitR l = er at *
    have g1 : ((er : Int) != 0) = true := by rw [bne_iff_ne]; omega
    clear hof hf hout hl64
    go_enter Try.func8, Try.ntmps8
    go_wp2_with fail
    refine (HOF.out).mono ?_
    rintro e w1 ⟨a1, c1, a2, c2, rfl, t1, n1, hb1⟩
    go_wp2_with fail
    refine (tbegun_any _).mono ?_
    rintro e w2 ⟨rfl, hb2⟩
    go_wp2_with fail
    go_ret
    exact ⟨rfl, below_then hb1 hb2⟩
  have hf0 : fitR l = 0 := by omega
  rw [ofR_ok hf0] at hof
  have hl := hl64 hf0
  replace hout := hout.resolve_left hf
  have HOF := Lib.hid hof
  generalize l.map (T.plc (T.bk l)) = cs at *
  generalize T.bk l = b at *
  clear hof hf hf0 hl64
  by_cases h1 : i < 0
  · have g1 : decide (i < 0) = true := decide_eq_true h1
    clear hout
    go_enter Try.func8, Try.ntmps8
    go_wp2_with fail
    refine (HOF.out).mono ?_
    rintro e w1 ⟨a1, c1, a2, c2, rfl, t1, n1, hb1⟩
    go_wp2_with fail
    refine (tbegun_any _).mono ?_
    rintro e w2 ⟨rfl, hb2⟩
    go_wp2_with fail
    go_ret
    exact ⟨rfl, below_then hb1 hb2⟩
  have g1 : decide (i < 0) = false := decide_eq_false h1
  have h2 : (l.length : Int) ≤ i := by omega
  have g2 : decide ((l.length : Int) ≤ i) = true := decide_eq_true h2
  clear hout
  go_enter Try.func8, Try.ntmps8
  go_wp2_with fail
  refine (HOF.out).mono ?_
  rintro e w1 ⟨a1, c1, a2, c2, rfl, t1, n1, hb1⟩
  go_wp2_with fail
  refine (tbegun_any _).mono ?_
  rintro e w2 ⟨rfl, hb2⟩
  go_wp2_with fail
  go_ret
  exact ⟨rfl, below_then hb1 hb2⟩

theorem getD_get (l : List (List UInt8)) (k : Nat) (hk : k < l.length) : l.getD k [] = l[k] := by simp [List.getD, List.getElem?_eq_getElem hk]
theorem span_ge {l : List (List UInt8)} {x lo : List UInt8} (hx : x ∈ l) : decide (T.plc (T.bk l) lo ≤ T.plc (T.bk l) x) = !decide (x < lo) := by
  obtain ⟨h1, h2⟩ := code_lt hx
  have h3 := T.plc_ge (T.bk_up l) lo h1
  have e : (T.bk l)[T.plc (T.bk l) x] = x := (getD_get _ _ h1).symm.trans h2
  rw [e] at h3
  rw [Bool.eq_iff_iff, decide_eq_true_iff, h3]
  simp
theorem span_lt {l : List (List UInt8)} {x hi : List UInt8} (hx : x ∈ l) : decide (T.plc (T.bk l) x < T.plA (T.bk l) hi) = !decide (hi < x) := by
  obtain ⟨h1, h2⟩ := code_lt hx
  have h3 := T.plA_gt (T.bk_up l) hi h1
  have e : (T.bk l)[T.plc (T.bk l) x] = x := (getD_get _ _ h1).symm.trans h2
  rw [e] at h3
  rw [Bool.eq_iff_iff, decide_eq_true_iff, Bool.not_eq_true', decide_eq_false_iff_not, ← h3]
  omega

set_option maxHeartbeats 2000000 in
set_option maxRecDepth 100000 in
theorem dictSpans_in (w : World) (a : Option Addr) (c : Nat) (l : List (List UInt8)) (hu : Txts w w.heap.size a l) (lo hgh : List UInt8)
    (i : Nat) (hf : fitR l = 0) (hi : i < l.length) :
    Calls Try.prog 8 #[.slice a l.length c, .string (str lo), .string (str hgh), .int .i64 i] w (BoolPost true w) := by
  have hof := dof_any a c l w hu
  have hl64 := (fit_zero hf).1
  rw [ofR_ok hf] at hof
  have HOF := Lib.hid hof
  have hsp := fun W a c h => dspan_any a c (T.bk l) lo hgh W h
  have hse : spanR (T.bk l) lo hgh = (T.plc (T.bk l) lo, max (T.plc (T.bk l) lo) (T.plA (T.bk l) hgh), 0) := by unfold spanR; rw [if_neg (by simp [book_bk hf])]
  rw [hse] at hsp
  have q1 := span_ge (lo := lo) (tmem l i hi)
  have q2 := span_lt (hi := hgh) (tmem l i hi)
  have hci := code_at (T.plc (T.bk l)) l i hi
  have hpi := T.plc_le (T.bk l) (l.getD i [])
  have hpl := T.plc_le (T.bk l) lo
  have hph := T.plA_le (T.bk l) hgh
  have hbl := bk_length l
  have hcl : (l.map (T.plc (T.bk l))).length = l.length := by simp
  obtain ⟨b1, o1, rfl, hb1l, hcc1⟩ := hu (fun e => by rw [e] at hi; simp at hi)
  have ci := hcc1 i hi
  have t1 : (!Op.bytesLess (str (l.getD i [])).toList (str lo).toList) = !decide (l.getD i [] < lo) := by rw [less_eq]
  have t2 := less_or (l.getD i []) hgh
  rw [← q1] at t1
  rw [← q2] at t2
  generalize T.plc (T.bk l) (l.getD i []) = p at *
  generalize T.plc (T.bk l) lo = A at *
  generalize T.plA (T.bk l) hgh = E at *
  generalize l.map (T.plc (T.bk l)) = cs at *
  obtain ⟨M, hM⟩ : ∃ M, M = max A E := ⟨_, rfl⟩
  rw [← hM] at hsp
  have HSP := Lib.hid hsp
  have hMA : A ≤ M := by omega
  have hMl : M ≤ 64 := by omega
  have hpM : A ≤ p → decide (p < M) = decide (p < E) := fun h => by rw [decide_eq_decide]; omega
  generalize l.getD i [] = x at *
  have HN2 := Lib.hid (fun (w : World) (a : Option Addr) (h : Nums w w.heap.size a cs) => (show ∃ b o, a = some ⟨b, o, none⟩ ∧ w.cell? ⟨b, o + i, none⟩ = some (.int .u64 (p : Nat)) by
    obtain ⟨b2, o2, e, _, hcc⟩ := h (fun e => by rw [e] at hcl; simp at hcl; omega)
    refine ⟨b2, o2, e, ?_⟩
    rw [hcc i (by omega), hci]))
  have gi : (i : Int) < (l.length : Int) := by omega
  have gi2 : (i : Int) < (cs.length : Int) := by omega
  have gwA : IntKind.u64.wrap (A : Int) = (A : Int) := by rw [IntKind.wrap_u64]; omega
  have gwM : IntKind.u64.wrap (M : Int) = (M : Int) := by rw [IntKind.wrap_u64]; omega
  have gAM : decide ((A : Int) ≤ (M : Int)) = true := decide_eq_true (by omega)
  have hp64 : p ≤ 64 := by omega
  generalize T.bk l = b at *
  generalize str x = X at *
  generalize str lo = LO at *
  generalize str hgh = HI at *
  clear hof hsp hse q1 q2 hci hcc1 hf hcl hpi hpl hph hbl hM
  by_cases hAp : A ≤ p
  · have gA : decide (A ≤ p) = true := decide_eq_true hAp
    rw [gA] at t1
    have gM := hpM hAp
    generalize decide (p < E) = d at *
    clear hpM hAp
    cases d
    all_goals
      go_enter Try.func8, Try.ntmps8
      go_wp2_with fail
      refine (HOF.out).mono ?_
      rintro e w1 ⟨a1, c1, a2, c2, rfl, k1, n1, hb1⟩
      go_wp2_with fail
      refine (tbegun_any _).mono ?_
      rintro e w2 ⟨rfl, hb2⟩
      have h2 := below_then hb1 hb2
      go_wp2_with fail
      refine (HSP.out _ _ _ (k1.next hb2)).mono ?_
      rintro e w3 ⟨rfl, hb3⟩
      have h3 := below_then h2 hb3
      obtain ⟨b2, o2, rfl, n2i⟩ := HN2.out w3 a2 (n1.next (below_then hb2 hb3))
      have ci2 := (h3.cell (p := ⟨b1, o1 + i, none⟩) hb1l).trans ci
      have HH3 := Lib.hid h3
      clear k1 n1 hb1 hb2 h2 hb3 h3 ci
      go_wp2_with fail
      go_quiet (fail)
      go_wp2_with fail
      go_ret
      exact ⟨rfl, below_drewN HH3.out _⟩
  · have gA : decide (A ≤ p) = false := decide_eq_false hAp
    rw [gA] at t1
    generalize decide (p < E) = d at *
    clear hpM hAp t2
    go_enter Try.func8, Try.ntmps8
    go_wp2_with fail
    refine (HOF.out).mono ?_
    rintro e w1 ⟨a1, c1, a2, c2, rfl, k1, n1, hb1⟩
    go_wp2_with fail
    refine (tbegun_any _).mono ?_
    rintro e w2 ⟨rfl, hb2⟩
    have h2 := below_then hb1 hb2
    go_wp2_with fail
    refine (HSP.out _ _ _ (k1.next hb2)).mono ?_
    rintro e w3 ⟨rfl, hb3⟩
    have h3 := below_then h2 hb3
    obtain ⟨b2, o2, rfl, n2i⟩ := HN2.out w3 a2 (n1.next (below_then hb2 hb3))
    have ci2 := (h3.cell (p := ⟨b1, o1 + i, none⟩) hb1l).trans ci
    have HH3 := Lib.hid h3
    clear k1 n1 hb1 hb2 h2 hb3 h3 ci
    go_wp2_with fail
    go_quiet (fail)
    go_wp2_with fail
    go_ret
    exact ⟨rfl, below_drewN HH3.out _⟩

theorem dictSpans_walk (w : World) (a : Option Addr) (c : Nat) (l : List (List UInt8)) (hm : l.length ≤ maxLen) (hcap : l.length ≤ c ∧ c ≤ maxLen ∧ (a = none → c = 0)) (hx : ∀ x ∈ l, x.length ≤ maxLen) (hu : Txts w w.heap.size a l)
    (lo : ByteArray) (hlo : lo.size ≤ maxLen) (hgh : ByteArray) (hhgh : hgh.size ≤ maxLen) (i : Int) (hi : -9223372036854775808 ≤ i ∧ i ≤ 9223372036854775807) :
    Calls Try.prog 8 #[.slice a l.length c, .string lo, .string hgh, .int .i64 i] w (BoolPost true w) := by
  by_cases hout : fitR l ≠ 0 ∨ i < 0 ∨ (l.length : Int) ≤ i
  · exact dictSpans_out w a c l hu lo hgh i (fun h => (fit_zero h).1) hout
  · obtain ⟨i, rfl⟩ : ∃ j : Nat, i = j := ⟨i.toNat, by omega⟩
    have h := dictSpans_in w a c l hu lo.data.toList hgh.data.toList i (by omega) (by omega)
    rw [str_eta, str_eta] at h
    exact h
end Go.Proofs.Ytdabpnpiojmbbaa
