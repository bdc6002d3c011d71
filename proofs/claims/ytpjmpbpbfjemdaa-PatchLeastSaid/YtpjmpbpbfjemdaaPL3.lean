/- The laws PatchLeast, PatchTells. -/
import Derived.Test.YtpjmpbpbfjemdaaPL1
import Derived.Test.YtpjmpbpbfjemdaaPR2
namespace Go.Proofs.Ytpjmpbpbfjemdaa
open Go.RowKit
set_option linter.unusedVariables false

theorem pbytes_at (l : List Nat) (h : V.sz (P.base l) < (str (P.bytes l)).size) : (str (P.bytes l))[V.sz (P.base l)] = UInt8.ofNat (P.best (P.more l)) := by
  have e : (str (P.bytes l))[V.sz (P.base l)] = (P.bytes l)[V.sz (P.base l)]'(by rw [← str_size]; exact h) := by
    simp [str, ByteArray.getElem_eq_getElem_data]
  rw [e]
  have e2 : (P.bytes l)[V.sz (P.base l)]? = some (UInt8.ofNat (P.best (P.more l))) := by
    unfold P.bytes P.bytesM
    have hl := V.enc_length (P.base l)
    rw [List.append_assoc, List.append_assoc, List.getElem?_append_right (by omega), hl, Nat.sub_self]
    rfl
  rw [List.getElem?_eq_getElem (by rw [← str_size]; exact h)] at e2
  exact Option.some.inj e2

set_option maxHeartbeats 1000000 in
set_option maxRecDepth 100000 in
theorem patchLeast_walk (w : World) (a : Option Addr) (c : Nat) (l : List Nat) (hm : l.length ≤ maxLen) (hcap : l.length ≤ c ∧ c ≤ maxLen ∧ (a = none → c = 0)) (hx : ∀ x ∈ l, x < 18446744073709551616) (hu : Nums w w.heap.size a l)
    (wide : Int) (hw : -9223372036854775808 ≤ wide ∧ wide ≤ 9223372036854775807) :
    Calls Try.prog 12 #[.slice a l.length c, .int .i64 wide] w (BoolPost true w) := by
  have hwr := pwrite_any a c l w hx hu
  have hco := fun W h => pcost_any a c l wide W hx h
  unfold maxLen at hm
  unfold pwriteR at hwr
  have heq : (str []).toList.isEmpty = true := empty_true _ rfl
  by_cases h : 64 < l.length
  · rw [if_pos h] at hwr
    have HWR := Lib.hid hwr
    have HCO := Lib.hid hco
    generalize costR l wide = r at *
    clear hwr hco hx
    go_enter Try.func12, Try.ntmps12
    go_wp2_with fail
    refine (HWR.out).mono ?_
    rintro e w1 ⟨rfl, hb1⟩
    go_wp2_with fail
    refine (pbegun_any _).mono ?_
    rintro e w2 ⟨rfl, hb2⟩
    have h2 := below_then hb1 hb2
    go_wp2_with fail
    refine (HCO.out _ (hu.next h2)).mono ?_
    rintro e w3 ⟨rfl, hb3⟩
    go_wp2_with fail
    go_ret
    exact ⟨rfl, below_then h2 hb3⟩
  rw [if_neg h] at hwr
  by_cases hc0 : (costR l wide).2 ≠ 0
  · have HWR := Lib.hid hwr
    have HCO := Lib.hid hco
    generalize costR l wide = r at *
    have g1 : ((r.2 : Int) != 0) = true := by rw [bne_iff_ne]; omega
    clear hwr hco hx hc0
    go_enter Try.func12, Try.ntmps12
    go_wp2_with fail
    refine (HWR.out).mono ?_
    rintro e w1 ⟨rfl, hb1⟩
    go_wp2_with fail
    refine (pbegun_any _).mono ?_
    rintro e w2 ⟨rfl, hb2⟩
    have h2 := below_then hb1 hb2
    go_wp2_with fail
    refine (HCO.out _ (hu.next h2)).mono ?_
    rintro e w3 ⟨rfl, hb3⟩
    go_wp2_with fail
    go_ret
    exact ⟨rfl, below_then h2 hb3⟩
  have hwide : 0 ≤ wide ∧ wide ≤ 64 := by
    unfold costR at hc0
    by_cases h1 : wide < 0 ∨ 64 < wide
    · rw [if_pos h1] at hc0; exact absurd (by decide) hc0
    · omega
  obtain ⟨k, rfl⟩ : ∃ k : Nat, wide = k := ⟨wide.toNat, by omega⟩
  have hk : k ≤ 64 := by omega
  have hcr : ∀ q : Nat, q ≤ 64 → costR l q = (P.cost q (P.more l), 0) := fun q hq => by
    unfold costR; rw [if_neg (by omega), if_neg (by omega), Int.toNat_natCast]
  have hwd := P.best_le (P.more l)
  have hco2 := fun W h => pcost_any a c l (P.best (P.more l) : Nat) W hx h
  rw [hcr k hk] at hco
  rw [hcr _ hwd] at hco2
  have hleast := P.best_least (P.more l) k hk
  have hlen := P.bytes_length l
  have hbb := P.base_lt l hx
  have hblen := pbytes_length l (by omega)
  obtain ⟨t, ht⟩ : ∃ t, t = str (P.bytes l) := ⟨_, rfl⟩
  have hts : t.size = V.sz (P.base l) + 2 + P.cost (P.best (P.more l)) (P.more l) := by rw [ht, str_size, hlen]
  have hsz1 := V.sz_le (P.base l)
  have hsz0 := V.sz_ge (P.base l)
  have hi : V.sz (P.base l) < t.size := by omega
  have hat : t[V.sz (P.base l)] = UInt8.ofNat (P.best (P.more l)) := by
    subst ht; exact pbytes_at l hi
  have htn : t[V.sz (P.base l)].toNat = P.best (P.more l) := by rw [hat]; simp; omega
  have HW64 := Lib.hid (show wrap64 (t[V.sz (P.base l)].toNat : Int) = (P.best (P.more l) : Int) by rw [htn]; unfold wrap64; omega)
  have HWR := Lib.hid (show Calls Try.prog 29 #[.slice a l.length c] w (fun e w' => e = .returned (.tuple #[.string t, .int .i64 0]) ∧ Below w.heap.size w w') by rw [ht]; exact hwr)
  have HBS := Lib.hid (fun W h => rbase_any a c l W W.heap.size (by omega) h)
  obtain ⟨v, hv⟩ : ∃ v, v = str (V.enc (P.base l)) := ⟨_, rfl⟩
  have hvs : v.size = V.sz (P.base l) := by rw [hv, str_size, V.enc_length]
  have HVB := Lib.hid (fun W => show Calls Try.prog 35 #[.int .u64 (P.base l : Nat)] W (fun e w' => e = .returned (.string v) ∧ Below W.heap.size W w') by rw [hv]; exact vbytes_any _ W hbb)
  have HCO := Lib.hid hco
  have HCO2 := Lib.hid hco2
  have hcb : P.cost (P.best (P.more l)) (P.more l) ≤ 1048576 := by omega
  generalize P.cost k (P.more l) = ck at *
  generalize P.cost (P.best (P.more l)) (P.more l) = cb at *
  generalize P.base l = bs at *
  generalize P.best (P.more l) = wd at *
  generalize V.sz bs = z at *
  obtain rfl : z = v.size := hvs.symm
  have g3 : decide (cb ≤ ck) = true := decide_eq_true hleast
  have g4 : ((t.size : Int) == ((v.size : Int) + 2 + (cb : Int))) = true := by rw [beq_iff_eq]; omega
  have hiI : (v.size : Int) < (t.size : Int) := by omega
  have hvb : v.size ≤ 9 := by omega
  clear hwr hco hco2 hx hc0 hcr hat htn ht hv hts hvs hlen hblen hleast hwide
  go_enter Try.func12, Try.ntmps12
  go_wp2_with fail
  refine (HWR.out).mono ?_
  rintro e w1 ⟨rfl, hb1⟩
  go_wp2_with fail
  refine (pbegun_any _).mono ?_
  rintro e w2 ⟨rfl, hb2⟩
  have h2 := below_then hb1 hb2
  go_wp2_with fail
  refine (HCO.out _ (hu.next h2)).mono ?_
  rintro e w3 ⟨rfl, hb3⟩
  have h3 := below_then h2 hb3
  go_wp2_with fail
  refine (HBS.out _ (hu.next h3)).mono ?_
  rintro e w4 ⟨rfl, rfl⟩
  go_wp2_with fail
  refine (HVB.out _).mono ?_
  rintro e w5 ⟨rfl, hb5⟩
  have h5 := below_then h3 hb5
  have hw64 := HW64.out
  go_wp2_with fail
  refine (HCO2.out _ (hu.next h5)).mono ?_
  rintro e w6 ⟨rfl, hb6⟩
  clear hw64
  go_wp2_with fail
  go_ret
  exact ⟨rfl, below_then h5 hb6⟩

set_option maxHeartbeats 1000000 in
set_option maxRecDepth 100000 in
theorem patchTells_walk (w : World) (a : Option Addr) (c : Nat) (l : List Nat) (hm : l.length ≤ maxLen) (hcap : l.length ≤ c ∧ c ≤ maxLen ∧ (a = none → c = 0)) (hx : ∀ x ∈ l, x < 18446744073709551616) (hu : Nums w w.heap.size a l)
    (wide : Int) (hw : -9223372036854775808 ≤ wide ∧ wide ≤ 9223372036854775807) :
    Calls Try.prog 9 #[.slice a l.length c, .int .i64 wide] w (BoolPost true w) := by
  have hco := pcost_any a c l wide w hx hu
  have hwr := fun W h => pwrite_any a c l W hx h
  unfold maxLen at hm
  unfold pwriteR at hwr
  unfold costR at hco
  have heq : (str []).toList.isEmpty = true := empty_true _ rfl
  by_cases h : 64 < l.length
  · simp only [if_pos h] at hwr hco
    have HWR := Lib.hid hwr
    have g2 : decide ((64 : Int) < (l.length : Int)) = true := decide_eq_true (by omega)
    by_cases h1 : wide < 0 ∨ 64 < wide
    · rw [if_pos h1] at hco
      have HCO := Lib.hid hco
      by_cases h3 : wide < 0
      all_goals
        first
          | have g3 : decide (wide < 0) = true := decide_eq_true h3
          | (have g3 : decide (wide < 0) = false := decide_eq_false h3
             have g4 : decide (64 < wide) = true := decide_eq_true (by omega))
        clear hwr hco hx h1 h3
        go_enter Try.func9, Try.ntmps9
        go_wp2_with fail
        refine (HCO.out).mono ?_
        rintro e w1 ⟨rfl, hb1⟩
        go_wp2_with fail
        refine (HWR.out _ (hu.next hb1)).mono ?_
        rintro e w2 ⟨rfl, hb2⟩
        have h2 := below_then hb1 hb2
        go_wp2_with fail
        refine (pbegun_any _).mono ?_
        rintro e w3 ⟨rfl, hb3⟩
        go_wp2_with fail
        go_ret
        exact ⟨rfl, below_then h2 hb3⟩
    · rw [if_neg h1] at hco
      have HCO := Lib.hid hco
      have g3 : decide (wide < 0) = false := decide_eq_false (by omega)
      have g4 : decide (64 < wide) = false := decide_eq_false (by omega)
      clear hwr hco hx h1
      go_enter Try.func9, Try.ntmps9
      go_wp2_with fail
      refine (HCO.out).mono ?_
      rintro e w1 ⟨rfl, hb1⟩
      go_wp2_with fail
      refine (HWR.out _ (hu.next hb1)).mono ?_
      rintro e w2 ⟨rfl, hb2⟩
      have h2 := below_then hb1 hb2
      go_wp2_with fail
      refine (pbegun_any _).mono ?_
      rintro e w3 ⟨rfl, hb3⟩
      go_wp2_with fail
      go_ret
      exact ⟨rfl, below_then h2 hb3⟩
  · simp only [if_neg h] at hwr hco
    have HWR := Lib.hid hwr
    have g2 : decide ((64 : Int) < (l.length : Int)) = false := decide_eq_false (by omega)
    have HRP := Lib.hid (fun W h => rpatch_any a c l W (by omega) hx h)
    have HRC := Lib.hid (fun W k hk h => rcost_any a c l k W hk (by omega) hx h)
    generalize P.bytes l = t at *
    by_cases h1 : wide < 0 ∨ 64 < wide
    · rw [if_pos h1] at hco
      have HCO := Lib.hid hco
      by_cases h3 : wide < 0
      all_goals
        first
          | have g3 : decide (wide < 0) = true := decide_eq_true h3
          | (have g3 : decide (wide < 0) = false := decide_eq_false h3
             have g4 : decide (64 < wide) = true := decide_eq_true (by omega))
        clear hwr hco hx h1 h3
        go_enter Try.func9, Try.ntmps9
        go_wp2_with fail
        refine (HCO.out).mono ?_
        rintro e w1 ⟨rfl, hb1⟩
        go_wp2_with fail
        refine (HWR.out _ (hu.next hb1)).mono ?_
        rintro e w2 ⟨rfl, hb2⟩
        have h2 := below_then hb1 hb2
        go_wp2_with fail
        refine (HRP.out _ (hu.next h2)).mono ?_
        rintro e w3 ⟨rfl, hb3⟩
        have h3 := below_then h2 hb3
        go_wp2_with fail
        refine (pbegun_any _).mono ?_
        rintro e w4 ⟨rfl, hb4⟩
        go_wp2_with fail
        go_ret
        exact ⟨rfl, below_then h3 hb4⟩
    · rw [if_neg h1] at hco
      obtain ⟨k, rfl⟩ : ∃ k : Nat, wide = k := ⟨wide.toNat, by omega⟩
      rw [Int.toNat_natCast] at hco
      have HCO := Lib.hid hco
      have HRK := Lib.hid (fun W h => HRC.out W k (by omega) h)
      have g3 : decide ((k : Int) < 0) = false := decide_eq_false (by omega)
      have g4 : decide ((64 : Int) < (k : Int)) = false := decide_eq_false (by omega)
      generalize P.cost k (P.more l) = ck at *
      clear hwr hco hx h1
      go_enter Try.func9, Try.ntmps9
      go_wp2_with fail
      refine (HCO.out).mono ?_
      rintro e w1 ⟨rfl, hb1⟩
      go_wp2_with fail
      refine (HWR.out _ (hu.next hb1)).mono ?_
      rintro e w2 ⟨rfl, hb2⟩
      have h2 := below_then hb1 hb2
      go_wp2_with fail
      refine (HRP.out _ (hu.next h2)).mono ?_
      rintro e w3 ⟨rfl, hb3⟩
      have h3 := below_then h2 hb3
      go_wp2_with fail
      refine (HRK.out _ (hu.next h3)).mono ?_
      rintro e w4 ⟨rfl, hb4⟩
      have h4 := below_then h3 hb4
      go_wp2_with fail
      refine (pbegun_any _).mono ?_
      rintro e w5 ⟨rfl, hb5⟩
      go_wp2_with fail
      go_ret
      exact ⟨rfl, below_then h4 hb5⟩
end Go.Proofs.Ytpjmpbpbfjemdaa
