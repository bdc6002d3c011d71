/- The walk of hypostyleref.FrontBytes. -/
import Derived.Test.YtplhlnlonjlcaaaFR1
import Derived.Test.YtplhlnlonjlcaaaFW3
namespace Go.Proofs.Ytplhlnlonjlcaaa
open Go.RowKit
set_option linter.unusedVariables false

theorem ks_drew {b o : Nat} {X : Value} {w W : World} (h : W.cell? ⟨b, o, none⟩ = some X ∧ Below w.heap.size w W) : W.drew.cell? ⟨b, o, none⟩ = some X ∧ Below w.heap.size w W.drew := ⟨h.1, h.2.drew⟩
theorem ks_below {b o : Nat} {X : Value} {w W W' : World} (hb : Below W.heap.size W W') (h : W.cell? ⟨b, o, none⟩ = some X ∧ Below w.heap.size w W) : W'.cell? ⟨b, o, none⟩ = some X ∧ Below w.heap.size w W' :=
  ⟨(hb.cell (p := ⟨b, o, none⟩) (by
    rcases Nat.lt_or_ge b W.heap.size with hlt | hge
    · exact hlt
    · have := h.1; simp [World.cell?, Array.getElem?_eq_none hge] at this)).trans h.1, below_then h.2 hb⟩

set_option maxHeartbeats 2000000 in
set_option maxRecDepth 100000 in
theorem fbytes_any (a : Option Addr) (c : Nat) (l : List (List UInt8)) (w : World) (hf : fitR l = 0) (hu : Txts w w.heap.size a l) :
    Calls Try.prog 12 #[.slice a l.length c] w (TextPost (F.fb [] l) w) := by
  obtain ⟨hl, hx, _⟩ := ffit_zero hf
  have HU := Lib.hid hu
  have HFS := Lib.hid (fun j h => fb_step l j h)
  have HLL := Lib.hid (fun j => last_len l j hx)
  have HFB := Lib.hid (fun j => fb_bound (l.take j) [] (fun x h => hx x (List.mem_of_mem_take h)))
  have HGM := Lib.hid (fun j (h : j < l.length) => hx _ (tgetD_mem l j h))
  have HLP := Lib.hid (fun j (h : j < l.length) (h1 : 0 < j) => show (l.take j).getLastD [] = l.getD (j - 1) [] by
    have := last_step l (j - 1) (by omega); rwa [show j - 1 + 1 = j by omega] at this)
  clear hx hu hf
  go_enter Try.func12, Try.ntmps12
  go_wp2_with fail
  go_loopw [3, 4, 5] (fun t i _ wr => ∃ j : Nat, j ≤ l.length ∧ i = .int .i64 j ∧ t = .string (str (F.fb [] (l.take j))) ∧ Below w.heap.size w wr) (fun _ i _ _ => l.length - (intOf i).toNat)
  case atStart => exact ⟨0, by omega, rfl, rfl, Below.refl _ _⟩
  case round =>
    obtain ⟨j, hj, rfl, rfl, hbw⟩ := hrel
    by_cases hlt : j < l.length
    · obtain ⟨b, off, rfl, hb, hcc⟩ := HU.out (fun e => by rw [e] at hlt; simp at hlt)
      have cj := (hbw.cell (p := ⟨b, off + j, none⟩) hb).trans (hcc j hlt)
      have HS := Lib.hid (HFS.out j hlt)
      have hll := HLL.out j
      have hxl := HGM.out j hlt
      have hfb := HFB.out j
      rw [List.length_take] at hfb
      by_cases h0 : j = 0
      · subst h0
        have h0s : F.sh ((l.take 0).getLastD []) (l.getD 0 []) = 0 := F.sh_nil_left _
        rw [h0s, Nat.sub_zero, List.drop_zero] at HS
        generalize l.getD 0 [] = x at *
        have hsx := str_size x
        obtain ⟨X, hX⟩ : ∃ X, X = str x := ⟨_, rfl⟩
        rw [← hX, Nat.add_zero] at cj
        rw [← hX] at hsx
        obtain ⟨tc, htc⟩ : ∃ tc, tc = str (F.fb [] (l.take 0)) := ⟨_, rfl⟩
        have hs0 : tc.size ≤ 1152 := by rw [htc, str_size]; omega
        rw [← htc]
        have hX16 : X.size ≤ 16 := by omega
        obtain ⟨m, hm⟩ : ∃ m, m = X.size := ⟨_, rfl⟩
        have hm2 : x.length = m := by omega
        rw [hm2] at HS
        obtain ⟨tx, htx⟩ : ∃ tx : Nat → ByteArray, tx = fun k => str (V.enc k) := ⟨_, rfl⟩
        have HV := Lib.hid (fun (k : Nat) W (hk : k < 18446744073709551616) => show Calls Try.prog 22 #[.int .u64 (k : Int)] W (fun e w' => e = .returned (.string (tx k)) ∧ Below W.heap.size W w') by rw [htx]; exact vbytes_any k W hk)
        have HV0 := Lib.hid (fun W => show Calls Try.prog 22 #[.int .u64 (0 : Int)] W (fun e w' => e = .returned (.string (tx 0)) ∧ Below W.heap.size W w') from HV.out 0 W (by omega))
        have ha1 : (tx 0).size ≤ 9 := by rw [htx]; simp only; rw [str_size, V.enc_length]; exact V.sz_le _
        have ha2 : (tx X.size).size ≤ 9 := by rw [htx]; simp only; rw [str_size, V.enc_length]; exact V.sz_le _
        have hcat1 : ¬ 9223372036854775807 < (tx 0).size + (tx X.size).size := by omega
        have hcat2 : ¬ 9223372036854775807 < (tx 0).size + (tx X.size).size + X.size := by omega
        have hcat3 : ¬ 9223372036854775807 < tc.size + ((tx 0).size + (tx X.size).size + X.size) := by omega
        have HSUM := Lib.hid (show tc ++ (tx 0 ++ tx X.size ++ X) = str (F.fb [] (l.take (0 + 1))) by
          rw [HS.out, htc, htx, ← hm, hX]
          simp only [str_append]
          simp [V.encs])
        have hw0 : IntKind.u64.wrap (0 : Int) = ((0 : Nat) : Int) := by decide
        have hw2 : IntKind.i64.wrap (X.size : Int) = (X.size : Int) := by rw [IntKind.wrap_i64]; omega
        have hw3 : IntKind.u64.wrap (X.size : Int) = (X.size : Int) := by rw [IntKind.wrap_u64]; omega
        have hi5 : (0 : Int) < (l.length : Int) := by omega
        have hXI : (0 : Int) ≤ (X.size : Int) := by omega
        have hex : X.extract 0 X.size = X := by simp
        clear hsx hX htc hcc hm htx hm2
        go_wp2_with fail
        go_region_held3 (fun W => W.cell? ⟨b, off, none⟩ = some (.string X) ∧ Below w.heap.size w W)
          (first
            | (refine ks_drew ?_; first | assumption | (refine ⟨?_, ?_⟩ <;> assumption))
            | (refine ks_below hb3 ?_; first | assumption | (refine ⟨?_, ?_⟩ <;> assumption)))
          (first
            | (go_at_call 22; refine (HV.out _ _ (by omega)).mono ?_; rintro e w3 ⟨rfl, hb3⟩)
            | (go_at_call 22; refine (HV0.out _).mono ?_; rintro e w3 ⟨rfl, hb3⟩))
        all_goals
          go_wp2_with fail
          exact ⟨⟨1, by omega, by go_num, by rw [← HSUM.out], (show _ ∧ Below w.heap.size w w3 by assumption).2⟩, by simp [intOf]; omega⟩
      · have hcp := (hbw.cell (p := ⟨b, off + (j - 1), none⟩) hb).trans (hcc (j - 1) (by omega))
        rw [← HLP.out j hlt (by omega)] at hcp
        generalize l.getD j [] = x at *
        generalize (l.take j).getLastD [] = y at *
        have hsx := str_size x
        have HSH := Lib.hid (fun W => sharedOf_any y x W (by unfold maxLen; omega) (by unfold maxLen; omega))
        have hnx := F.sh_le_right y x
        generalize F.sh y x = n at *
        generalize str y = Y at *
        obtain ⟨X, hX⟩ : ∃ X, X = str x := ⟨_, rfl⟩
        rw [← hX] at hsx HSH cj
        obtain ⟨tc, htc⟩ : ∃ tc, tc = str (F.fb [] (l.take j)) := ⟨_, rfl⟩
        have hs0 : tc.size ≤ 1152 := by rw [htc, str_size]; omega
        rw [← htc]
        have hcast : (X.size : Int) - (n : Int) = ((x.length - n : Nat) : Int) := by omega
        have hnX : n ≤ X.size := by omega
        have hX16 : X.size ≤ 16 := by omega
        have hnI : (n : Int) ≤ (X.size : Int) := by omega
        have hm16 : x.length - n ≤ 16 := by omega
        obtain ⟨m, hm⟩ : ∃ m, m = x.length - n := ⟨_, rfl⟩
        rw [← hm] at hcast hm16 HS
        obtain ⟨t1, ht1⟩ : ∃ t1, t1 = str (V.enc n) := ⟨_, rfl⟩
        obtain ⟨t2, ht2⟩ : ∃ t2, t2 = str (V.enc m) := ⟨_, rfl⟩
        have hs1 : t1.size ≤ 9 := by rw [ht1, str_size, V.enc_length]; exact V.sz_le _
        have hs2 : t2.size ≤ 9 := by rw [ht2, str_size, V.enc_length]; exact V.sz_le _
        obtain ⟨tx, htx⟩ : ∃ tx : Nat → ByteArray, tx = fun k => str (V.enc k) := ⟨_, rfl⟩
        have HV := Lib.hid (fun (k : Nat) W (hk : k < 18446744073709551616) => show Calls Try.prog 22 #[.int .u64 (k : Int)] W (fun e w' => e = .returned (.string (tx k)) ∧ Below W.heap.size W w') by rw [htx]; exact vbytes_any k W hk)
        have HT1 := Lib.hid (show t1 = tx n by rw [htx]; exact ht1)
        have HT2 := Lib.hid (show t2 = tx m by rw [htx]; exact ht2)
        have ha1 : (tx n).size ≤ 9 := by rw [← HT1.out]; exact hs1
        have ha2 : (tx m).size ≤ 9 := by rw [← HT2.out]; exact hs2
        have hcat1 : ¬ 9223372036854775807 < (tx n).size + (tx m).size := by omega
        have hcat2 : ¬ 9223372036854775807 < (tx n).size + (tx m).size + (X.size - n) := by omega
        have hcat3 : ¬ 9223372036854775807 < tc.size + ((tx n).size + (tx m).size + (X.size - n)) := by omega
        have HSUM := Lib.hid (show tc ++ (tx n ++ tx m ++ X.extract n X.size) = str (F.fb [] (l.take (j + 1))) by
          have he : X.extract n X.size = str (x.drop n) := by
            apply ByteArray.ext; apply Array.toList_inj.mp
            rw [show (X.extract n X.size).data.toList = X.data.toList.drop n from cut_data X n, hX]; rfl
          rw [he, HS.out, htc, htx, str_append, str_append, str_append]
          simp [V.encs])
        have hi1 : IntKind.i64.wrap ((j : Int) - 1) = (j : Int) - 1 := by rw [IntKind.wrap_i64]; omega
        have hi2 : (0 : Int) ≤ (j : Int) - 1 := by omega
        have hi3 : ((j : Int) - 1).toNat = j - 1 := by omega
        have hi4 : (j : Int) - 1 < (l.length : Int) := by omega
        have hi5 : (j : Int) < (l.length : Int) := by omega
        have hi6 : (1 : Int) ≤ (j : Int) := by omega
        have g0 : decide ((0 : Int) < (j : Int)) = true := decide_eq_true (by omega)
        have hw1 : IntKind.u64.wrap (n : Int) = (n : Int) := by rw [IntKind.wrap_u64]; omega
        have hw2 : IntKind.i64.wrap (m : Int) = (m : Int) := by rw [IntKind.wrap_i64]; omega
        have hw3 : IntKind.u64.wrap (m : Int) = (m : Int) := by rw [IntKind.wrap_u64]; omega
        clear hsx hX htc ht1 ht2 hcc hm htx
        go_wp2_with fail
        go_quiet ((go_at_call 15; exact Calls.quiet_of (HSH.out _)))
        go_wp2_with fail
        obtain ⟨W0, hW0⟩ : ∃ W0, W0 = wr.drewN nq := ⟨_, rfl⟩
        have cj0 : W0.cell? ⟨b, off + j, none⟩ = some (.string X) := by rw [hW0]; exact cj
        have hbw0 : Below w.heap.size w W0 := by rw [hW0]; exact below_drewN hbw _
        rw [← hW0]
        clear hW0 cj hcp hbw
        go_region_held3 (fun W => W.cell? ⟨b, off + j, none⟩ = some (.string X) ∧ Below w.heap.size w W)
          (first
            | (refine ks_drew ?_; first | assumption | (refine ⟨?_, ?_⟩ <;> assumption))
            | (refine ks_below hb3 ?_; first | assumption | (refine ⟨?_, ?_⟩ <;> assumption)))
          (first
            | (go_at_call 22; refine (HV.out _ _ (by omega)).mono ?_; rintro e w3 ⟨rfl, hb3⟩))
        all_goals
          go_wp2_with fail
          exact ⟨⟨j + 1, by omega, by go_num, by rw [← HSUM.out], (show _ ∧ Below w.heap.size w w3 by assumption).2⟩, by simp [intOf]; omega⟩
    · obtain rfl : j = l.length := by omega
      rw [List.take_length]
      go_wp2_with fail
      go_ret
      exact ⟨rfl, hbw⟩
end Go.Proofs.Ytplhlnlonjlcaaa
