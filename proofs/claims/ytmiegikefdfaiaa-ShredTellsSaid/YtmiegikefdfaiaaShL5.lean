/- The walk of ShredTells. -/
import Derived.Test.YtmiegikefdfaiaaShB
import Derived.Test.YtmiegikefdfaiaaShKc
namespace Go.Proofs.Ytmiegikefdfaiaa
open Go.RowKit
open Sh (Lv)
set_option linter.unusedVariables false

theorem shR_num {l : List Sh.Fd} {rs : List (List Nat)} {n : Nat} (h : Sh.shR l rs = .error n) : n < 100 := by
  unfold Sh.shR at h
  split at h
  · cases h
    have := Sh.chkL_le l 1
    unfold Sh.check
    split
    · omega
    · split
      · omega
      · split <;> omega
  · split at h
    · cases h; omega
    · have := recsS_err h; omega
theorem check_num (l : List Sh.Fd) : Sh.check l < 100 := by
  have := Sh.chkL_le l 1
  unfold Sh.check
  split
  · omega
  · split
    · omega
    · split <;> omega
theorem lvn_check {l : List Sh.Fd} : lvn l = if Sh.check l = 0 then lvs l else 0 := rfl
/-- what Shred answered: columns, an error's number -/
def FirstPost (R : Except Nat (List (List Lv))) (w : World) (v1 : Value) (er : Nat) : Prop :=
  match R with
  | .error m => v1 = .slice none 0 0 ∧ er = m
  | .ok cols => er = 0 ∧ ∃ C, v1 = .slice (some ⟨C, 0, none⟩) cols.length cols.length ∧ LRows w w.heap.size (some ⟨C, 0, none⟩) cols ∧ cols.length ≤ 12
theorem first_of {R : Except Nat (List (List Lv))} {w w' : World} {e : Ending} (h : ShrOk w R e w') : ∃ v1 er, e = .returned (.tuple #[v1, .int .i64 ((er : Nat) : Int)]) ∧ FirstPost R w' v1 er := by
  obtain ⟨-, hm⟩ := h
  cases R with
  | error n => obtain ⟨-, rfl⟩ := hm; exact ⟨_, n, rfl, rfl, rfl⟩
  | ok cols => obtain ⟨C, rfl, h1, h2⟩ := hm; exact ⟨_, 0, rfl, rfl, C, rfl, h1, h2⟩

set_option maxHeartbeats 4000000 in
set_option maxRecDepth 100000 in
theorem shredTells_walk (w : World) (a : Option Addr) (cap : Nat) (l : List Sh.Fd) (hm : l.length ≤ maxLen) (hq : l.length ≤ cap ∧ cap ≤ maxLen ∧ (a = none → cap = 0)) (hx : ∀ x ∈ l, fdOk x) (hu : Fds w w.heap.size a l)
    (ra : Option Addr) (rcap : Nat) (rs : List (List Nat)) (hrm : rs.length ≤ maxLen) (hrq : rs.length ≤ rcap ∧ rcap ≤ maxLen ∧ (ra = none → rcap = 0)) (hru : NRows w w.heap.size ra rs) :
    Calls Try.prog 3 #[.slice a l.length cap, .slice ra rs.length rcap] w (BoolPost true w) := by
  have HLV := Lib.hid (leaves_any a cap l w hq.1 hq.2.1 hu)
  have HS := Lib.hid (fun W (hb : Below w.heap.size w W) => shred_ok a cap l ra rcap rs W hq.1 hq.2.1 (hu.next hb) hrq.1 hrq.2.1 (hru.next hb))
  have HF := Lib.hid (fun W (hb : Below w.heap.size w W) => formCheck_any a cap l W hm (hu.next hb))
  have HO := Lib.hid (fun W (hb : Below w.heap.size w W) => shredOf_any a cap l ra rcap rs W hq.1 hq.2.1 (hu.next hb) hrq.1 hrq.2.1 (hru.next hb))
  have HC := Lib.hid (fun W (hb : Below w.heap.size w W) => shcheck_any a cap l W hm (hu.next hb))
  have HU := Lib.hid (fun W (hb : Below w.heap.size w W) => hu.next hb)
  have HLT := Lib.hid hru.lt
  have hck := check_num l
  have HN12 := Lib.hid (show Sh.check l = 0 → l.length ≤ 12 from fun h => by obtain ⟨k, -, -, -, h12⟩ := Sh.check_form h; exact h12)
  have HLVN := Lib.hid (@lvn_check l)
  have hlvn : lvn l ≤ l.length := by unfold lvn; split; exact List.length_filter_le _ _; exact Nat.zero_le _
  have hl63 : l.length ≤ 9223372036854775807 := by unfold maxLen at hm; omega
  have HSN := Lib.hid (fun j (h : j < l.length) => lvs_snoc l j h)
  have HSL := Lib.hid (fun j => Nat.le_trans (lvs_le (l.take j)) (by rw [List.length_take]; exact Nat.min_le_left _ _))
  have HTL := Lib.hid (show lvs (l.take l.length) = lvs l by rw [List.take_length])
  clear hm hq hx hu hrq hru hrm
  obtain ⟨nl, hnl⟩ : ∃ n, n = l.length := ⟨_, rfl⟩
  obtain ⟨nr, hnr⟩ : ∃ n, n = rs.length := ⟨_, rfl⟩
  have HNL := Lib.hid hnl
  rw [← hnl] at HLV HS HF HO HC hlvn hl63 HN12 HSN HTL ⊢
  rw [← hnr] at HS HO ⊢
  obtain ⟨ck, hckk⟩ : ∃ n, n = Sh.check l := ⟨_, rfl⟩
  rw [← hckk] at HLV HF HC HN12 HLVN hck
  obtain ⟨lv, hlv⟩ : ∃ n, n = lvn l := ⟨_, rfl⟩
  rw [← hlv] at HLV HLVN hlvn
  clear hnl hnr hckk hlv
  go_enter Try.func3, Try.ntmps3
  go_wp2_with fail
  refine (HLV.out).mono ?_
  rintro e w1 ⟨rfl, hb1⟩
  have HB1 := Lib.hid hb1
  clear hb1 HLV
  go_wp2_with fail
  refine (HS.out w1 HB1.out).mono ?_
  intro e w2 hm2
  obtain ⟨v1, er, rfl, hv1⟩ := first_of hm2
  have hb2 := hm2.1
  obtain ⟨R, hR⟩ : ∃ R, R = Sh.shR l rs := ⟨_, rfl⟩
  rw [← hR] at hv1 HO
  have HRN := Lib.hid (show ∀ n, R = .error n → n < 100 from fun n h => shR_num (hR.symm.trans h))
  have HRL := Lib.hid (show ∀ cols, R = .ok cols → ∀ i, ∀ x ∈ cols.getD i [], lvOk x from fun cols h => shR_lvOk HLT.out (hR.symm.trans h))
  have HB2 := Lib.hid (below_then HB1.out hb2)
  have HV1 := Lib.hid hv1
  clear hb2 hR HS HLT hm2 hv1
  go_wp2_with fail
  refine (HF.out w2 HB2.out).mono ?_
  rintro e w3 ⟨rfl, hb3⟩
  have HB3 := Lib.hid (below_then HB2.out hb3)
  have HB23 := Lib.hid hb3
  clear hb3 HF
  by_cases hc0 : ck = 0
  · subst hc0
    have HLVL := Lib.hid (show lv = lvs l by rw [HLVN.out, if_pos rfl])
    have hn12 := HN12.out rfl
    clear HLVN HN12
    go_wp2_with fail
    go_loop [10, 11] (fun wv i => ∃ j : Nat, j ≤ nl ∧ i = .int .i64 j ∧ wv = .int .i64 (lvs (l.take j) : Nat)) (fun _ i => nl - (intOf i).toNat)
    case atStart => exact ⟨0, Nat.zero_le _, rfl, rfl⟩
    case round =>
      obtain ⟨j, hj, rfl, rfl⟩ := hrel
      by_cases hlt : j < nl
      · have hjI : (j : Int) < (nl : Int) := by omega
        have hjl : j < l.length := by rw [← HNL.out]; exact hlt
        obtain ⟨b, off, rfl, hbl, hcc⟩ := HU.out w3 HB3.out (List.ne_nil_of_length_pos (by omega))
        obtain ⟨-, c1⟩ := hcc j hjl
        have hsn := HSN.out j hlt
        have hsl := HSL.out j
        generalize lvs (l.take j) = Z at *
        generalize (l.getD j Sh.fd0).2 = X at *
        have HZS := Lib.hid hsn
        clear hcc hjl hbl hsn
        by_cases hX : X = 0
        · subst hX
          go_wp2_with fail
          exact ⟨⟨j + 1, by omega, by go_num, by rw [HZS.out, if_pos rfl]; go_num⟩, by simp [intOf]; omega⟩
        · have hXb : (X == 0) = false := by rw [beq_eq_false_iff_ne]; exact hX
          have HX := Lib.hid hX
          clear hX
          go_wp2_with fail
          exact ⟨⟨j + 1, by omega, by go_num, by rw [HZS.out, if_neg HX.out, Nat.add_zero]⟩, by simp [intOf]; omega⟩
      · obtain rfl : j = nl := by omega
        have hjI : ¬ (j : Int) < (j : Int) := by omega
        rw [show lvs (l.take j) = lv by rw [HTL.out, HLVL.out]]
        clear HLVL HTL HSN HSL HU
        go_wp2_with fail
        refine (HO.out w3 HB3.out).mono ?_
        rintro e w4 ⟨hb4, hm4⟩
        have HB4 := Lib.hid (below_then HB3.out hb4)
        cases R with
        | error n =>
          obtain rfl := hm4
          obtain ⟨rfl, rfl⟩ := HV1.out
          have hn := HRN.out er rfl
          clear hb4
          go_wp2_with fail
          refine (shbegun_any _).mono ?_
          rintro e w5 ⟨rfl, hb5⟩
          have HB5 := Lib.hid (below_then HB4.out hb5)
          clear hb5
          go_wp2_with fail
          refine (HC.out w5 HB5.out).mono ?_
          rintro e w6 ⟨rfl, hb6⟩
          have HB6 := Lib.hid (below_then HB5.out hb6)
          clear hb6
          go_wp2_with fail
          refine (csame_any none none 0 0 [] [] w6 (LRows.nil _ _ _) (LRows.nil _ _ _) (Nat.zero_le _)).mono ?_
          rw [decide_eq_true rfl]
          rintro e w7 ⟨rfl, hb7⟩
          have HB7 := Lib.hid (below_then HB6.out hb7)
          clear hb7
          go_wp2_with fail
          go_ret
          exact ⟨rfl, HB7.out⟩
        | ok cols =>
          obtain ⟨A, cp, rfl, hC4⟩ := hm4
          obtain ⟨rfl, C, rfl, hC1, h12⟩ := HV1.out
          have HC4 := Lib.hid (hC4.rows (HRL.out cols rfl))
          have HC1 := Lib.hid ((hC1.next HB23.out).next hb4)
          have HCL := Lib.hid (show cols.length ≤ maxLen by unfold maxLen; omega)
          obtain ⟨nc, hnc⟩ : ∃ n, n = cols.length := ⟨_, rfl⟩
          rw [← hnc]
          have HNC := Lib.hid hnc
          clear hC4 hC1 hb4 h12 hnc
          go_wp2_with fail
          refine (shbegun_any _).mono ?_
          rintro e w5 ⟨rfl, hb5⟩
          have HB5 := Lib.hid (below_then HB4.out hb5)
          have HC45 := Lib.hid (HC4.out.next hb5)
          have HC15 := Lib.hid (HC1.out.next hb5)
          clear hb5
          go_wp2_with fail
          refine (HC.out w5 HB5.out).mono ?_
          rintro e w6 ⟨rfl, hb6⟩
          have HB6 := Lib.hid (below_then HB5.out hb6)
          have HSM := csame_any (some ⟨C, 0, none⟩) A nc cp cols cols w6 (HC15.out.next hb6) (HC45.out.next hb6) HCL.out
          rw [decide_eq_true rfl, ← HNC.out] at HSM
          have HSM := Lib.hid HSM
          clear hb6
          go_wp2_with fail
          refine (HSM.out).mono ?_
          rintro e w7 ⟨rfl, hb7⟩
          have HB7 := Lib.hid (below_then HB6.out hb7)
          clear hb7
          go_wp2_with fail
          go_ret
          exact ⟨rfl, HB7.out⟩
  · have g0 : ((ck : Int) == 0) = false := by rw [beq_eq_false_iff_ne]; omega
    obtain rfl : lv = 0 := by rw [HLVN.out, if_neg hc0]
    clear HLVN HN12 HTL HSN HSL HU
    go_wp2_with fail
    refine (HO.out w3 HB3.out).mono ?_
    rintro e w4 ⟨hb4, hm4⟩
    have HB4 := Lib.hid (below_then HB3.out hb4)
    cases R with
    | error n =>
      obtain rfl := hm4
      obtain ⟨rfl, rfl⟩ := HV1.out
      have hn := HRN.out er rfl
      clear hb4
      go_wp2_with fail
      refine (shbegun_any _).mono ?_
      rintro e w5 ⟨rfl, hb5⟩
      have HB5 := Lib.hid (below_then HB4.out hb5)
      clear hb5
      go_wp2_with fail
      refine (HC.out w5 HB5.out).mono ?_
      rintro e w6 ⟨rfl, hb6⟩
      have HB6 := Lib.hid (below_then HB5.out hb6)
      clear hb6
      go_wp2_with fail
      refine (csame_any none none 0 0 [] [] w6 (LRows.nil _ _ _) (LRows.nil _ _ _) (Nat.zero_le _)).mono ?_
      rw [decide_eq_true rfl]
      rintro e w7 ⟨rfl, hb7⟩
      have HB7 := Lib.hid (below_then HB6.out hb7)
      clear hb7
      go_wp2_with fail
      go_ret
      exact ⟨rfl, HB7.out⟩
    | ok cols =>
      obtain ⟨A, cp, rfl, hC4⟩ := hm4
      obtain ⟨rfl, C, rfl, hC1, h12⟩ := HV1.out
      have HC4 := Lib.hid (hC4.rows (HRL.out cols rfl))
      have HC1 := Lib.hid ((hC1.next HB23.out).next hb4)
      have HCL := Lib.hid (show cols.length ≤ maxLen by unfold maxLen; omega)
      obtain ⟨nc, hnc⟩ : ∃ n, n = cols.length := ⟨_, rfl⟩
      rw [← hnc]
      have HNC := Lib.hid hnc
      clear hC4 hC1 hb4 h12 hnc
      go_wp2_with fail
      refine (shbegun_any _).mono ?_
      rintro e w5 ⟨rfl, hb5⟩
      have HB5 := Lib.hid (below_then HB4.out hb5)
      have HC45 := Lib.hid (HC4.out.next hb5)
      have HC15 := Lib.hid (HC1.out.next hb5)
      clear hb5
      go_wp2_with fail
      refine (HC.out w5 HB5.out).mono ?_
      rintro e w6 ⟨rfl, hb6⟩
      have HB6 := Lib.hid (below_then HB5.out hb6)
      have HSM := csame_any (some ⟨C, 0, none⟩) A nc cp cols cols w6 (HC15.out.next hb6) (HC45.out.next hb6) HCL.out
      rw [decide_eq_true rfl, ← HNC.out] at HSM
      have HSM := Lib.hid HSM
      clear hb6
      go_wp2_with fail
      refine (HSM.out).mono ?_
      rintro e w7 ⟨rfl, hb7⟩
      have HB7 := Lib.hid (below_then HB6.out hb7)
      clear hb7
      go_wp2_with fail
      go_ret
      exact ⟨rfl, HB7.out⟩
end Go.Proofs.Ytmiegikefdfaiaa
