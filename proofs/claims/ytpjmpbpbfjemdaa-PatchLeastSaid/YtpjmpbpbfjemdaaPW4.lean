/- The walk of patch.mend. -/
import Derived.Test.YtpjmpbpbfjemdaaPW2
import Derived.Test.YtpjmpbpbfjemdaaHW8
namespace Go.Proofs.Ytpjmpbpbfjemdaa
open Go.RowKit
set_option linter.unusedVariables false

def MendPost (r : List Nat × Nat) (Bs : Nat) (A : Option Addr) (N c : Nat) (W : World) (e : Ending) (w' : World) : Prop :=
  e = .returned (.int .i64 r.2) ∧ NumRow Bs r.1 (.slice A N c) w' ∧ Below Bs W w'

theorem mend_nil (w n : Nat) (m : List Nat) (nx : Nat) : P.mend w (n + 1) m [] nx = (m, 5) := rfl
theorem mend_end0 (w : Nat) (m : List Nat) (nx : Nat) : P.mend w 0 m [] nx = (m, 0) := rfl
theorem mend_end1 (w : Nat) (m : List Nat) (s : List UInt8) (nx : Nat) (h : s ≠ []) : P.mend w 0 m s nx = (m, 1) := by
  cases s with
  | nil => exact absurd rfl h
  | cons _ _ => rfl

set_option maxHeartbeats 2000000 in
set_option maxRecDepth 100000 in
theorem mend_any (Bs : Nat) (A : Option Addr) (N c many wide : Nat) (m : List Nat) (s : ByteArray) (W : World) (hB : Bs ≤ W.heap.size) (hs : s.size ≤ maxLen) (hk : wide ≤ 64) (hmany : many ≤ 255) (hN : m.length = N) (hN64 : N ≤ 64) (hrow : NumRow Bs m (.slice A N c) W) :
    Calls Try.prog 81 #[.slice A N c, .string s, .int .i64 many, .int .i64 wide] W (MendPost (P.mend wide many m s.data.toList 0) Bs A N c W) := by
  have hmax := hs
  unfold maxLen at hmax
  generalize hR : P.mend wide many m s.data.toList 0 = R
  have HR := Lib.hid hR
  have HN := Lib.hid hN
  clear hR hN
  go_enter Try.func81, Try.ntmps81
  go_wp2_with fail
  go_loopw [1, 9, 15] (fun sv bf i wr => ∃ (j nx : Nat) (t : ByteArray) (b : Int) (xs : List Nat), j ≤ many ∧ i = .int .i64 j ∧ sv = .string t ∧ bf = .int .i64 b ∧ Hid (b = (nx : Int) - 1) ∧ Hid (P.mend wide (many - j) xs t.data.toList nx = R) ∧ t.size ≤ s.size ∧ Hid (xs.length = N) ∧ -1 ≤ b ∧ b ≤ 255 ∧ NumRow Bs xs (.slice A N c) wr ∧ Below Bs W wr ∧ Bs ≤ wr.heap.size) (fun _ _ i _ => many - (intOf i).toNat)
  case atStart => exact ⟨0, 0, s, -1, m, by omega, rfl, rfl, rfl, Lib.hid rfl, HR, Nat.le_refl _, HN, by omega, by omega, hrow, Below.refl _ _, hB⟩
  case round =>
    obtain ⟨j, nx, t, b, xs, hj, rfl, rfl, rfl, HBN, HM, hts, HXL, hb1, hb2, hnr, hbw, hBw⟩ := hrel
    by_cases hlt : j < many
    · have hjI : (j : Int) < (many : Int) := by omega
      obtain ⟨q, hq⟩ : ∃ q, many - j = q + 1 := ⟨many - j - 1, by omega⟩
      have hM := HM.out
      rw [hq] at hM
      have HQ := Lib.hid hq
      clear hq HM
      by_cases h0 : t.size = 0
      · have he := empty_true t h0
        rw [data_empty t h0, mend_nil] at hM
        have HM := Lib.hid hM
        clear hM
        go_wp2_with fail
        go_ret
        exact ⟨by rw [← HM.out]; rfl, by rw [← HM.out]; exact hnr, hbw⟩
      · have he := empty_false t h0
        have hp : 0 < t.size := by omega
        have hpI : (0 : Int) < (t.size : Int) := by omega
        obtain ⟨tl, hd⟩ := head_cons t hp
        have hdt : (t.extract 1 t.size).data.toList = tl := by rw [cut_data, hd]; rfl
        rw [hd] at hM
        unfold P.mend at hM
        have hu8 := t[0].toNat_lt
        obtain ⟨cc, hcc⟩ : ∃ cc, cc = t[0].toNat := ⟨_, rfl⟩
        have hc256 : cc < 256 := by omega
        have HW := Lib.hid (show wrap64 (t[0].toNat : Int) = (cc : Int) by unfold wrap64; omega)
        rw [← hcc] at hM
        have hsl1 : (1 : Int) ≤ (t.size : Int) := by omega
        have HDT := Lib.hid hdt
        clear hcc hd hdt hu8
        by_cases h1 : xs.length ≤ cc
        · rw [if_pos h1] at hM
          have HM := Lib.hid hM
          rw [HXL.out] at h1
          have g1 : decide (N ≤ cc) = true := decide_eq_true h1
          clear hM
          have hw64 := HW.out
          go_wp2_with fail
          go_ret
          exact ⟨by rw [← HM.out]; rfl, by rw [← HM.out]; exact hnr, hbw⟩
        rw [if_neg h1] at hM
        have hcN : cc < N := by have := HXL.out; omega
        have g1 : decide (N ≤ cc) = false := decide_eq_false (by omega)
        have hcNI : (cc : Int) < (N : Int) := by omega
        have hcx : cc < xs.length := by omega
        clear h1
        by_cases h2 : cc < nx
        · rw [if_pos h2] at hM
          have HM := Lib.hid hM
          have g2 : decide ((cc : Int) ≤ b) = true := decide_eq_true (by have := HBN.out; omega)
          clear hM
          have hw64 := HW.out
          go_wp2_with fail
          go_ret
          exact ⟨by rw [← HM.out]; rfl, by rw [← HM.out]; exact hnr, hbw⟩
        rw [if_neg h2] at hM
        have hbc : b < (cc : Int) := by have := HBN.out; omega
        have g2 : decide ((cc : Int) ≤ b) = false := decide_eq_false (by omega)
        obtain ⟨g, rfl, hclr, hgB, hgw⟩ := hnr.form (fun e => by rw [e] at hcx; simp at hcx)
        have ck := hnr.cell cc hcx
        have fk := hnr.free cc
        clear h2 hclr
        by_cases h3 : xs.getD cc 0 ≠ 0
        · rw [if_pos h3] at hM
          have HM := Lib.hid hM
          generalize xs.getD cc 0 = x at *
          have g3 : ((x : Int) != 0) = true := by rw [bne_iff_ne]; omega
          clear hM
          have hw64 := HW.out
          go_wp2_with fail
          go_ret
          exact ⟨by rw [← HM.out]; rfl, by rw [← HM.out]; exact hnr, hbw⟩
        rw [if_neg h3] at hM
        generalize xs.getD cc 0 = x at *
        have g3 : ((x : Int) != 0) = false := by rw [bne_eq_false_iff_eq]; omega
        clear h3
        have hrd := fun W => vread_any (t.extract 1 t.size) W (by simp; unfold maxLen; omega)
        rw [HDT.out] at hrd
        have hbad := V.rd_bad tl
        have hok := fun n k (h : V.rd tl = (n, k, 0)) => V.rd_ok tl n k h
        generalize V.rd tl = r at *
        obtain ⟨n, k, er⟩ := r
        simp only at hM hbad
        have HRD := Lib.hid hrd
        clear hrd
        by_cases h4 : er ≠ 0
        · rw [if_pos h4] at hM
          have HM := Lib.hid hM
          have g4 : ((er : Int) != 0) = true := by rw [bne_iff_ne]; omega
          clear hM hbad hok
          have hw64 := HW.out
          go_wp2_with fail
          refine (HRD.out _).mono ?_
          rintro e w2 ⟨rfl, hbb⟩
          go_wp2_with fail
          go_ret
          exact ⟨by rw [← HM.out]; rfl, by rw [← HM.out]; exact hnr.below hbb, hbw.trans (hbb.mono hBw)⟩
        rw [if_neg h4] at hM
        obtain rfl : er = 0 := by omega
        obtain ⟨k1, k2, _, kn, k9, _⟩ := hok n k rfl
        clear h4 hbad hok
        have HPF := Lib.hid (fun W => pfits_any n wide W hk)
        by_cases h5 : B.bl n ≤ wide
        · rw [if_pos h5] at hM
          have HM := Lib.hid hM
          rw [show (!P.out wide n) = true by unfold P.out; rw [Bool.not_not]; exact decide_eq_true h5] at HPF
          clear hM h5
          have hw64 := HW.out
          go_wp2_with fail
          refine (HRD.out _).mono ?_
          rintro e w2 ⟨rfl, hbb⟩
          go_wp2_with fail
          refine (HPF.out _).mono ?_
          rintro e w3 ⟨rfl, rfl⟩
          go_wp2_with fail
          go_ret
          exact ⟨by rw [← HM.out]; rfl, by rw [← HM.out]; exact hnr.below hbb, hbw.trans (hbb.mono hBw)⟩
        rw [if_neg h5] at hM
        have HM := Lib.hid hM
        rw [show (!P.out wide n) = false by unfold P.out; rw [Bool.not_not]; exact decide_eq_false h5] at HPF
        have htk : tl.length + 1 = t.size := by have h := HDT.out; have := congrArg List.length h; rw [len_data] at this; simp at this; omega
        have hks : 1 + k ≤ t.size := by omega
        have hksI : (1 : Int) + (k : Int) ≤ (t.size : Int) := by omega
        have hkI : IntKind.i64.wrap ((1 : Int) + (k : Int)) = ((1 + k : Nat) : Int) := by rw [IntKind.wrap_i64]; omega
        have hdk : (t.extract (1 + k) t.size).data.toList = tl.drop k := by
          rw [cut_data, ← List.drop_drop, ← HDT.out, cut_data]
        have HDK := Lib.hid hdk
        have hNR := Lib.hid hnr
        clear hM h5 hdk hnr htk
        have hw64 := HW.out
        go_wp2_with fail
        refine (HRD.out _).mono ?_
        rintro e w2 ⟨rfl, hbb⟩
        go_wp2_with fail
        refine (HPF.out _).mono ?_
        rintro e w3 ⟨rfl, rfl⟩
        clear hw64
        have hc2 : w2.cell? ⟨g, cc, none⟩ = some (.int .u64 (x : Int)) := (hbb.cell (p := ⟨g, cc, none⟩) hgw).trans ck
        have hf2 : w2.frozen? ⟨g, cc, none⟩ = false := (hbb.frozen (p := ⟨g, cc, none⟩) hgw).trans fk
        have HN2 := Lib.hid ((hNR.out.below hbb).put cc n)
        have HB2 := Lib.hid ((hbw.trans (hbb.mono hBw)).setCell (p := ⟨g, cc, none⟩) hgB (.int .u64 (n : Int)))
        have HS2 := Lib.hid (show Bs ≤ (w2.setCell ⟨g, cc, none⟩ (.int .u64 (n : Int))).heap.size by have := hbb.size; simp; omega)
        have HXL2 := Lib.hid (show (xs.set cc n).length = N by rw [List.length_set]; exact HXL.out)
        have HM2 := Lib.hid (show P.mend wide (many - (j + 1)) (xs.set cc n) (t.extract (1 + k) t.size).data.toList (cc + 1) = R by rw [HDK.out, show many - (j + 1) = q by have := HQ.out; omega]; exact HM.out)
        have hsz2 : (t.extract (1 + k) t.size).size ≤ s.size := by simp; omega
        obtain ⟨t2, ht2⟩ : ∃ t2, t2 = t.extract (1 + k) t.size := ⟨_, rfl⟩
        go_wp2_with fail
        exact ⟨⟨j + 1, cc + 1, _, (cc : Int), xs.set cc n, by omega, by go_num, rfl, rfl, Lib.hid (by omega), HM2, hsz2, HXL2, by omega, by omega, HN2.out, HB2.out, HS2.out⟩, by simp [intOf]; omega⟩
    · obtain rfl : j = many := by omega
      have hM := HM.out
      rw [Nat.sub_self] at hM
      by_cases h0 : t.size = 0
      · have he := empty_true t h0
        rw [data_empty t h0, mend_end0] at hM
        have HM := Lib.hid hM
        clear hM
        go_wp2_with fail
        go_ret
        exact ⟨by rw [← HM.out]; rfl, by rw [← HM.out]; exact hnr, hbw⟩
      · have he := empty_false t h0
        rw [mend_end1 _ _ _ _ (data_ne t h0)] at hM
        have HM := Lib.hid hM
        clear hM
        go_wp2_with fail
        go_ret
        exact ⟨by rw [← HM.out]; rfl, by rw [← HM.out]; exact hnr, hbw⟩
end Go.Proofs.Ytpjmpbpbfjemdaa
