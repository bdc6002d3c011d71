/- FR2, FR3, BitsPk, PLen, WB, KR1, KR2, KR3, KR4, KR5, KR6, KR7, KR8, DBack, KPlain, KB0. -/
import Derived.Deep.QuietTactic
import Derived.Lib.Hide
import Derived.Test.YtmiboibadccceaaGreatK6
/- The walk of hypostyleref.FrontBytes. -/
namespace Go.Proofs.YtmiboibadccceaaGreat
open Go.RowKit
set_option linter.unusedVariables false

theorem ks_drew {b o : Nat} {X : Value} {w W : World} (h : W.cell? ⟨b, o, none⟩ = some X ∧ Below w.heap.size w W) : W.drew.cell? ⟨b, o, none⟩ = some X ∧ Below w.heap.size w W.drew := ⟨h.1, h.2.drew⟩
theorem ks_below {b o : Nat} {X : Value} {w W W' : World} (hb : Below W.heap.size W W') (h : W.cell? ⟨b, o, none⟩ = some X ∧ Below w.heap.size w W) : W'.cell? ⟨b, o, none⟩ = some X ∧ Below w.heap.size w W' :=
  ⟨(hb.cell (p := ⟨b, o, none⟩) (by
    rcases Nat.lt_or_ge b W.heap.size with hlt | hge
    · exact hlt
    · have := h.1; simp [World.cell?, Array.getElem?_eq_none hge] at this)).trans h.1, below_then h.2 hb⟩

set_option maxHeartbeats 2000000 in
set_option maxRecDepth 100000 in
theorem fbytes_any (a : Option Addr) (c : Nat) (l : List (List UInt8)) (w : World) (hf : fitR l = 0) (hu : Txts w w.heap.size a l) :
    Calls Tryz.prog 54 #[.slice a l.length c] w (TextPost (F.fb [] l) w) := by
  obtain ⟨hl, hx, _⟩ := ffit_zero hf
  have HU := Lib.hid hu
  have HFS := Lib.hid (fun j h => fb_step l j h)
  have HLL := Lib.hid (fun j => last_len l j hx)
  have HFB := Lib.hid (fun j => fb_bound (l.take j) [] (fun x h => hx x (List.mem_of_mem_take h)))
  have HGM := Lib.hid (fun j (h : j < l.length) => hx _ (tgetD_mem l j h))
  have HLP := Lib.hid (fun j (h : j < l.length) (h1 : 0 < j) => show (l.take j).getLastD [] = l.getD (j - 1) [] by
    have := last_step l (j - 1) (by omega); rwa [show j - 1 + 1 = j by omega] at this)
  clear hx hu hf
  go_enter Tryz.func54, Tryz.ntmps54
  go_wp2_with fail
  go_loopw [3, 4, 5] (fun t i _ wr => ∃ j : Nat, j ≤ l.length ∧ i = .int .i64 j ∧ t = .string (str (F.fb [] (l.take j))) ∧ Below w.heap.size w wr) (fun _ i _ _ => l.length - (intOf i).toNat)
  case atStart => exact ⟨0, by omega, rfl, rfl, Below.refl _ _⟩
  case round =>
    obtain ⟨j, hj, rfl, rfl, hbw⟩ := hrel
    by_cases hlt : j < l.length
    · obtain ⟨b, off, rfl, hb, hcc⟩ := HU.out (fun e => by rw [e] at hlt; simp at hlt)
      have cj := (hbw.cell (p := ⟨b, off + j, none⟩) hb).trans (hcc j hlt)
      have HS := Lib.hid (HFS.out j hlt)
      have hll := HLL.out j
      have hxl := HGM.out j hlt
      have hfb := HFB.out j
      rw [List.length_take] at hfb
      by_cases h0 : j = 0
      · subst h0
        have h0s : F.sh ((l.take 0).getLastD []) (l.getD 0 []) = 0 := F.sh_nil_left _
        rw [h0s, Nat.sub_zero, List.drop_zero] at HS
        generalize l.getD 0 [] = x at *
        have hsx := str_size x
        obtain ⟨X, hX⟩ : ∃ X, X = str x := ⟨_, rfl⟩
        rw [← hX, Nat.add_zero] at cj
        rw [← hX] at hsx
        obtain ⟨tc, htc⟩ : ∃ tc, tc = str (F.fb [] (l.take 0)) := ⟨_, rfl⟩
        have hs0 : tc.size ≤ 1152 := by rw [htc, str_size]; omega
        rw [← htc]
        have hX16 : X.size ≤ 16 := by omega
        obtain ⟨m, hm⟩ : ∃ m, m = X.size := ⟨_, rfl⟩
        have hm2 : x.length = m := by omega
        rw [hm2] at HS
        obtain ⟨tx, htx⟩ : ∃ tx : Nat → ByteArray, tx = fun k => str (V.enc k) := ⟨_, rfl⟩
        have HV := Lib.hid (fun (k : Nat) W (hk : k < 18446744073709551616) => show Calls Tryz.prog 51 #[.int .u64 (k : Int)] W (fun e w' => e = .returned (.string (tx k)) ∧ Below W.heap.size W w') by rw [htx]; exact vbytes_any k W hk)
        have HV0 := Lib.hid (fun W => show Calls Tryz.prog 51 #[.int .u64 (0 : Int)] W (fun e w' => e = .returned (.string (tx 0)) ∧ Below W.heap.size W w') from HV.out 0 W (by omega))
        have ha1 : (tx 0).size ≤ 9 := by rw [htx]; simp only; rw [str_size, V.enc_length]; exact V.sz_le _
        have ha2 : (tx X.size).size ≤ 9 := by rw [htx]; simp only; rw [str_size, V.enc_length]; exact V.sz_le _
        have hcat1 : ¬ 9223372036854775807 < (tx 0).size + (tx X.size).size := by omega
        have hcat2 : ¬ 9223372036854775807 < (tx 0).size + (tx X.size).size + X.size := by omega
        have hcat3 : ¬ 9223372036854775807 < tc.size + ((tx 0).size + (tx X.size).size + X.size) := by omega
        have HSUM := Lib.hid (show tc ++ (tx 0 ++ tx X.size ++ X) = str (F.fb [] (l.take (0 + 1))) by
          rw [HS.out, htc, htx, ← hm, hX]
          simp only [str_append]
          simp [V.encs])
        have hw0 : IntKind.u64.wrap (0 : Int) = ((0 : Nat) : Int) := by decide
        have hw2 : IntKind.i64.wrap (X.size : Int) = (X.size : Int) := by rw [IntKind.wrap_i64]; omega
        have hw3 : IntKind.u64.wrap (X.size : Int) = (X.size : Int) := by rw [IntKind.wrap_u64]; omega
        have hi5 : (0 : Int) < (l.length : Int) := by omega
        have hXI : (0 : Int) ≤ (X.size : Int) := by omega
        have hex : X.extract 0 X.size = X := by simp
        clear hsx hX htc hcc hm htx hm2
        go_wp2_with fail
        go_region_held3 (fun W => W.cell? ⟨b, off, none⟩ = some (.string X) ∧ Below w.heap.size w W)
          (first
            | (refine ks_drew ?_; first | assumption | (refine ⟨?_, ?_⟩ <;> assumption))
            | (refine ks_below hb3 ?_; first | assumption | (refine ⟨?_, ?_⟩ <;> assumption)))
          (first
            | (go_at_call 51; refine (HV.out _ _ (by omega)).mono ?_; rintro e w3 ⟨rfl, hb3⟩)
            | (go_at_call 51; refine (HV0.out _).mono ?_; rintro e w3 ⟨rfl, hb3⟩))
        all_goals
          go_wp2_with fail
          exact ⟨⟨1, by omega, by go_num, by rw [← HSUM.out], (show _ ∧ Below w.heap.size w w3 by assumption).2⟩, by simp [intOf]; omega⟩
      · have hcp := (hbw.cell (p := ⟨b, off + (j - 1), none⟩) hb).trans (hcc (j - 1) (by omega))
        rw [← HLP.out j hlt (by omega)] at hcp
        generalize l.getD j [] = x at *
        generalize (l.take j).getLastD [] = y at *
        have hsx := str_size x
        have HSH := Lib.hid (fun W => sharedOf_any y x W (by unfold maxLen; omega) (by unfold maxLen; omega))
        have hnx := F.sh_le_right y x
        generalize F.sh y x = n at *
        generalize str y = Y at *
        obtain ⟨X, hX⟩ : ∃ X, X = str x := ⟨_, rfl⟩
        rw [← hX] at hsx HSH cj
        obtain ⟨tc, htc⟩ : ∃ tc, tc = str (F.fb [] (l.take j)) := ⟨_, rfl⟩
        have hs0 : tc.size ≤ 1152 := by rw [htc, str_size]; omega
        rw [← htc]
        have hcast : (X.size : Int) - (n : Int) = ((x.length - n : Nat) : Int) := by omega
        have hnX : n ≤ X.size := by omega
        have hX16 : X.size ≤ 16 := by omega
        have hnI : (n : Int) ≤ (X.size : Int) := by omega
        have hm16 : x.length - n ≤ 16 := by omega
        obtain ⟨m, hm⟩ : ∃ m, m = x.length - n := ⟨_, rfl⟩
        rw [← hm] at hcast hm16 HS
        obtain ⟨t1, ht1⟩ : ∃ t1, t1 = str (V.enc n) := ⟨_, rfl⟩
        obtain ⟨t2, ht2⟩ : ∃ t2, t2 = str (V.enc m) := ⟨_, rfl⟩
        have hs1 : t1.size ≤ 9 := by rw [ht1, str_size, V.enc_length]; exact V.sz_le _
        have hs2 : t2.size ≤ 9 := by rw [ht2, str_size, V.enc_length]; exact V.sz_le _
        obtain ⟨tx, htx⟩ : ∃ tx : Nat → ByteArray, tx = fun k => str (V.enc k) := ⟨_, rfl⟩
        have HV := Lib.hid (fun (k : Nat) W (hk : k < 18446744073709551616) => show Calls Tryz.prog 51 #[.int .u64 (k : Int)] W (fun e w' => e = .returned (.string (tx k)) ∧ Below W.heap.size W w') by rw [htx]; exact vbytes_any k W hk)
        have HT1 := Lib.hid (show t1 = tx n by rw [htx]; exact ht1)
        have HT2 := Lib.hid (show t2 = tx m by rw [htx]; exact ht2)
        have ha1 : (tx n).size ≤ 9 := by rw [← HT1.out]; exact hs1
        have ha2 : (tx m).size ≤ 9 := by rw [← HT2.out]; exact hs2
        have hcat1 : ¬ 9223372036854775807 < (tx n).size + (tx m).size := by omega
        have hcat2 : ¬ 9223372036854775807 < (tx n).size + (tx m).size + (X.size - n) := by omega
        have hcat3 : ¬ 9223372036854775807 < tc.size + ((tx n).size + (tx m).size + (X.size - n)) := by omega
        have HSUM := Lib.hid (show tc ++ (tx n ++ tx m ++ X.extract n X.size) = str (F.fb [] (l.take (j + 1))) by
          have he : X.extract n X.size = str (x.drop n) := by
            apply ByteArray.ext; apply Array.toList_inj.mp
            rw [show (X.extract n X.size).data.toList = X.data.toList.drop n from cut_data X n, hX]; rfl
          rw [he, HS.out, htc, htx, str_append, str_append, str_append]
          simp [V.encs])
        have hi1 : IntKind.i64.wrap ((j : Int) - 1) = (j : Int) - 1 := by rw [IntKind.wrap_i64]; omega
        have hi2 : (0 : Int) ≤ (j : Int) - 1 := by omega
        have hi3 : ((j : Int) - 1).toNat = j - 1 := by omega
        have hi4 : (j : Int) - 1 < (l.length : Int) := by omega
        have hi5 : (j : Int) < (l.length : Int) := by omega
        have hi6 : (1 : Int) ≤ (j : Int) := by omega
        have g0 : decide ((0 : Int) < (j : Int)) = true := decide_eq_true (by omega)
        have hw1 : IntKind.u64.wrap (n : Int) = (n : Int) := by rw [IntKind.wrap_u64]; omega
        have hw2 : IntKind.i64.wrap (m : Int) = (m : Int) := by rw [IntKind.wrap_i64]; omega
        have hw3 : IntKind.u64.wrap (m : Int) = (m : Int) := by rw [IntKind.wrap_u64]; omega
        clear hsx hX htc ht1 ht2 hcc hm htx
        go_wp2_with fail
        go_quiet ((go_at_call 98; exact Calls.quiet_of (HSH.out _)))
        go_wp2_with fail
        obtain ⟨W0, hW0⟩ : ∃ W0, W0 = wr.drewN nq := ⟨_, rfl⟩
        have cj0 : W0.cell? ⟨b, off + j, none⟩ = some (.string X) := by rw [hW0]; exact cj
        have hbw0 : Below w.heap.size w W0 := by rw [hW0]; exact below_drewN hbw _
        rw [← hW0]
        clear hW0 cj hcp hbw
        go_region_held3 (fun W => W.cell? ⟨b, off + j, none⟩ = some (.string X) ∧ Below w.heap.size w W)
          (first
            | (refine ks_drew ?_; first | assumption | (refine ⟨?_, ?_⟩ <;> assumption))
            | (refine ks_below hb3 ?_; first | assumption | (refine ⟨?_, ?_⟩ <;> assumption)))
          (first
            | (go_at_call 51; refine (HV.out _ _ (by omega)).mono ?_; rintro e w3 ⟨rfl, hb3⟩))
        all_goals
          go_wp2_with fail
          exact ⟨⟨j + 1, by omega, by go_num, by rw [← HSUM.out], (show _ ∧ Below w.heap.size w w3 by assumption).2⟩, by simp [intOf]; omega⟩
    · obtain rfl : j = l.length := by omega
      rw [List.take_length]
      go_wp2_with fail
      go_ret
      exact ⟨rfl, hbw⟩
end Go.Proofs.YtmiboibadccceaaGreat
/- The walk of hypostyleref.FrontOf. -/
namespace Go.Proofs.YtmiboibadccceaaGreat
open Go.RowKit
set_option linter.unusedVariables false

theorem frvof_any (s : ByteArray) (w : World) (hs : s.size ≤ maxLen) : Calls Tryz.prog 106 #[.string s] w (ReadPost (V.rd s.data.toList) w) := by
  by_cases h0 : s.size = 0
  · have e : s.data.toList = [] := data_empty s h0
    rw [e]
    exact vof_empty s w h0
  · exact vof_any s w hs (by omega)

theorem next_e1 {r last : List UInt8} {n k e : Nat} (h : V.rd r = (n, k, e)) (he : e ≠ 0) : nextR r last = ([], [], e) := by
  unfold nextR toldR; simp [h, he]
theorem next_e2 {r last : List UInt8} {n k m j e : Nat} (h : V.rd r = (n, k, 0)) (h2 : V.rd (r.drop k) = (m, j, e)) (he : e ≠ 0) : nextR r last = ([], [], e) := by
  unfold nextR toldR; simp [h, h2, he]
theorem told_ok {r : List UInt8} {n k m j : Nat} (h : V.rd r = (n, k, 0)) (h2 : V.rd (r.drop k) = (m, j, 0)) : toldR r = ((n, m), r.drop (k + j), 0) := by
  unfold toldR; simp [h, h2]
theorem next_e3 {r last : List UInt8} {n m : Nat} {q : List UInt8} (h : toldR r = ((n, m), q, 0)) (h3 : last.length < n) : nextR r last = ([], [], 3) := by
  unfold nextR; simp [h, h3]
theorem next_e4 {r last : List UInt8} {n m : Nat} {q : List UInt8} (h : toldR r = ((n, m), q, 0)) (h3 : ¬ last.length < n) (hl : last.length ≤ 16) (h4 : 16 < n + m) : nextR r last = ([], [], 2) := by
  have : 16 - n < m := by omega
  unfold nextR; simp [h, h3, this]
theorem next_e5 {r last : List UInt8} {n m : Nat} {q : List UInt8} (h : toldR r = ((n, m), q, 0)) (h3 : ¬ last.length < n) (h4 : ¬ 16 < n + m) (h5 : q.length < m) : nextR r last = ([], [], 5) := by
  have : ¬ 16 - n < m := by omega
  unfold nextR; simp [h, h3, this, h5]
theorem next_e6 {r last : List UInt8} {n m : Nat} {q : List UInt8} (h : toldR r = ((n, m), q, 0)) (h3 : ¬ last.length < n) (h4 : ¬ 16 < n + m) (h5 : ¬ q.length < m) :
    nextR r last = if F.sh last (last.take n ++ q.take m) ≠ n then ([], [], 1) else (last.take n ++ q.take m, q.drop m, 0) := by
  have h4' : ¬ 16 - n < m := by omega
  have hge : n ≤ F.sh last (last.take n ++ q.take m) := by
    refine F.sh_ge n _ _ (by omega) (by rw [List.length_append, List.length_take]; omega) ?_
    rw [List.take_append_of_le_length (by rw [List.length_take]; omega), List.take_take, Nat.min_self]
  unfold nextR
  rw [h]
  simp only
  rw [if_neg (by simp), if_neg h3, if_neg h4', if_neg h5]
  by_cases h6 : F.sh last (last.take n ++ q.take m) ≠ n
  · rw [if_pos h6, if_pos (by omega)]
  · rw [if_neg h6, if_neg (by omega)]

set_option maxHeartbeats 2000000 in
set_option maxRecDepth 100000 in
theorem fof_ok (s : List UInt8) (n : Nat) (w : World) (hs : s.length ≤ maxLen) (hn : n ≤ 64) :
    Calls Tryz.prog 64 #[.string (str s), .int .i64 (n : Int)] w (TextsPost (F.fr n [] s) w) := by
  unfold maxLen at hs
  have H0 := Lib.hid (show F.fr n [] s = glue [] (F.fr (n - ([] : List (List UInt8)).length) [] s) by rw [glue_nil]; rfl)
  obtain ⟨R, hR⟩ : ∃ R, R = F.fr n [] s := ⟨_, rfl⟩
  rw [← hR] at H0 ⊢
  clear hR
  have g1 : decide ((64 : Int) < (n : Int)) = false := decide_eq_false (by omega)
  have g2 : decide ((n : Int) < 0) = false := decide_eq_false (by omega)
  go_enter Tryz.func64, Tryz.ntmps64
  go_wp2_with fail
  go_loopw [0, 6, 7, 8, 9, 10, 11, 12, 13] (fun t b v _ _ _ _ _ _ wr => ∃ (acc : List (List UInt8)) (last r : List UInt8), acc.length ≤ n ∧ t = .string (str r) ∧ b = .string (str last) ∧ last.length ≤ 16 ∧ r.length ≤ 9223372036854775807 ∧ TRow w.heap.size acc v wr ∧ Below w.heap.size w wr ∧ Hid (R = glue acc (F.fr (n - acc.length) last r))) (fun _ _ v _ _ _ _ _ _ _ => n - (match v with | .slice _ k _ => k | _ => 0))
  case atStart => exact ⟨[], [], s, by simp, rfl, rfl, by simp, by omega, tnilRow _ _, Below.refl _ _, H0⟩
  case round =>
    obtain ⟨acc, last, r, hj, rfl, rfl, hl, hr, hrw, hbw, HJ⟩ := hrel
    obtain ⟨a0, c0, rfl, htx, _, _⟩ := tRow_txts hrw
    obtain ⟨j, hj2⟩ : ∃ j, j = acc.length := ⟨_, rfl⟩
    rw [← hj2] at hj HJ hrw ⊢
    have HJ2 := Lib.hid hj2
    clear hj2
    by_cases hlt : j < n
    · have hjI : (j : Int) < (n : Int) := by omega
      have HGB := Lib.hid (glue_bad acc (n - (j + 1)) last r hl)
      have HGO := Lib.hid (glue_on acc (n - (j + 1)) last r hl)
      rw [show n - (j + 1) + 1 = n - j by omega] at HGB HGO
      rw [← HJ.out] at HGB HGO
      have HERR := Lib.hid (fun (e : Nat) (he : e ≠ 0) (h : nextR r last = ([], [], e)) => show R = ([], e) by have := HGB.out; rw [h] at this; exact this he)
      have HRW := Lib.hid hrw
      have hv1 := frvof_any (str r) wr (by rw [str_size]; unfold maxLen; omega)
      rw [str_data] at hv1
      unfold ReadPost at hv1
      have hsr := str_size r
      have hb1 := V.rd_bad r
      obtain ⟨x, k, e, he⟩ : ∃ x k e, V.rd r = (x, k, e) := ⟨_, _, _, rfl⟩
      rw [he] at hv1 hb1
      simp only at hv1
      have HV1 := Lib.hid hv1
      clear hv1 hrw htx HGB
      by_cases h0 : e = 0
      · subst h0
        obtain ⟨hk1, hkl, _, hx, hk9, _⟩ := V.rd_ok _ _ _ he
        have hv2 := fun W => frvof_any (str (r.drop k)) W (by rw [str_size, List.length_drop]; unfold maxLen; omega)
        rw [str_data] at hv2
        unfold ReadPost at hv2
        have hb2 := V.rd_bad (r.drop k)
        have HXT := Lib.hid (show (str r).extract k (str r).size = str (r.drop k) by
          apply ByteArray.ext; apply Array.toList_inj.mp
          rw [show ((str r).extract k (str r).size).data.toList = (str r).data.toList.drop k from cut_data _ k]; rfl)
        obtain ⟨m, i, f, hf⟩ : ∃ m i f, V.rd (r.drop k) = (m, i, f) := ⟨_, _, _, rfl⟩
        rw [hf] at hv2 hb2
        rw [← HXT.out] at hv2
        simp only at hv2
        have HV2 := Lib.hid hv2
        have hkI : (k : Int) ≤ ((str r).size : Int) := by omega
        clear hv2 hb1
        by_cases h02 : f = 0
        · subst h02
          obtain ⟨hi1, hil, _, hm, hi9, _⟩ := V.rd_ok _ _ _ hf
          rw [List.length_drop] at hil
          have hto := told_ok he hf
          have HXT2 := Lib.hid (show (str r).extract (k + i) (str r).size = str (r.drop (k + i)) by
            apply ByteArray.ext; apply Array.toList_inj.mp
            rw [show ((str r).extract (k + i) (str r).size).data.toList = (str r).data.toList.drop (k + i) from cut_data _ _]; rfl)
          obtain ⟨q, hq⟩ : ∃ q, q = r.drop (k + i) := ⟨_, rfl⟩
          have hql : q.length ≤ 9223372036854775807 := by rw [hq, List.length_drop]; omega
          rw [← hq] at hto HXT2
          have hkiI : (k : Int) + (i : Int) ≤ ((str r).size : Int) := by omega
          have hki0 : (0 : Int) ≤ (k : Int) + (i : Int) := by omega
          have hwki : IntKind.i64.wrap ((k : Int) + (i : Int)) = (k : Int) + (i : Int) := by rw [IntKind.wrap_i64]; omega
          have hkin : ((k : Int) + (i : Int)).toNat = k + i := by omega
          have hsl := str_size last
          have hsq := str_size q
          have HSL := Lib.hid hsl
          have HSQ := Lib.hid hsq
          have hL : (str last).size ≤ 16 := by omega
          have hQ : (str q).size ≤ 9223372036854775807 := by omega
          clear hq hb2 hsl hsq hsr he hf
          by_cases h3 : last.length < x
          · have HRE := Lib.hid (HERR.out 3 (by decide) (next_e3 hto h3))
            have g3 : decide ((str last).size < x) = true := decide_eq_true (by have := HSL.out; omega)
            have hwl : IntKind.u64.wrap ((str last).size : Int) = ((str last).size : Int) := by rw [IntKind.wrap_u64]; omega
            generalize str r = S at *
            generalize str q = Q at *
            generalize str last = L at *
            clear HGO HERR HJ h3 hto
            go_wp2_with fail
            refine (HV1.out).mono ?_
            rintro e2 w1 ⟨rfl, hbl⟩
            go_wp2_with fail
            refine (HV2.out _).mono ?_
            rintro e3 w2 ⟨rfl, hbl2⟩
            have hbl3 := below_then hbl hbl2
            go_wp2_with fail
            go_ret2
            rw [HRE.out]
            exact TextsPost.none _ (below_then hbw hbl3)
          have g3 : decide ((str last).size < x) = false := decide_eq_false (by have := HSL.out; omega)
          have hwl : IntKind.u64.wrap ((str last).size : Int) = ((str last).size : Int) := by rw [IntKind.wrap_u64]; omega
          by_cases h4 : 16 < x + m
          · have HRE := Lib.hid (HERR.out 2 (by decide) (next_e4 hto h3 hl h4))
            by_cases h41 : 16 < m
            · have g4 : decide (16 < m) = true := decide_eq_true h41
              have g4' : decide ((16 : Int) < (m : Int)) = true := decide_eq_true (by omega)
              generalize str r = S at *
              generalize str q = Q at *
              generalize str last = L at *
              clear HGO HERR HJ hto h4 h3
              go_wp2_with fail
              refine (HV1.out).mono ?_
              rintro e2 w1 ⟨rfl, hbl⟩
              go_wp2_with fail
              refine (HV2.out _).mono ?_
              rintro e3 w2 ⟨rfl, hbl2⟩
              have hbl3 := below_then hbl hbl2
              go_wp2_with fail
              go_ret2
              rw [HRE.out]
              exact TextsPost.none _ (below_then hbw hbl3)
            · have g4 : decide (16 < m) = false := decide_eq_false h41
              have g4' : decide ((16 : Int) < (m : Int)) = false := decide_eq_false (by omega)
              have hwn : IntKind.u64.wrap ((x : Int) + (m : Int)) = (x : Int) + (m : Int) := by rw [IntKind.wrap_u64]; omega
              have g5 : decide ((16 : Int) < (x : Int) + (m : Int)) = true := decide_eq_true (by omega)
              generalize str r = S at *
              generalize str q = Q at *
              generalize str last = L at *
              clear HGO HERR HJ hto h4 h3
              go_wp2_with fail
              refine (HV1.out).mono ?_
              rintro e2 w1 ⟨rfl, hbl⟩
              go_wp2_with fail
              refine (HV2.out _).mono ?_
              rintro e3 w2 ⟨rfl, hbl2⟩
              have hbl3 := below_then hbl hbl2
              go_wp2_with fail
              go_ret2
              rw [HRE.out]
              exact TextsPost.none _ (below_then hbw hbl3)
          have g4 : decide (16 < m) = false := decide_eq_false (by omega)
          have g4' : decide ((16 : Int) < (m : Int)) = false := decide_eq_false (by omega)
          have hwn : IntKind.u64.wrap ((x : Int) + (m : Int)) = (x : Int) + (m : Int) := by rw [IntKind.wrap_u64]; omega
          have g5 : decide ((16 : Int) < (x : Int) + (m : Int)) = false := decide_eq_false (by omega)
          have hwm : IntKind.i64.wrap (m : Int) = (m : Int) := by rw [IntKind.wrap_i64]; omega
          have hwx : IntKind.i64.wrap (x : Int) = (x : Int) := by rw [IntKind.wrap_i64]; omega
          by_cases h5 : q.length < m
          · have HRE := Lib.hid (HERR.out 5 (by decide) (next_e5 hto h3 h4 h5))
            have hse : (str r).size - (k + i) = q.length := by
              have h1 := congrArg ByteArray.size HXT2.out
              rw [HSQ.out] at h1
              rw [← h1]; simp
            have g6 : decide ((str r).size - (k + i) < m) = true := decide_eq_true (by omega)
            have g6' : decide ((((str r).size - (k + i) : Nat) : Int) < (m : Int)) = true := decide_eq_true (by omega)
            clear hse
            generalize str r = S at *
            generalize str last = L at *
            clear HGO HERR HJ hto h4 h3 h5
            go_wp2_with fail
            refine (HV1.out).mono ?_
            rintro e2 w1 ⟨rfl, hbl⟩
            go_wp2_with fail
            refine (HV2.out _).mono ?_
            rintro e3 w2 ⟨rfl, hbl2⟩
            have hbl3 := below_then hbl hbl2
            go_wp2_with fail
            go_ret2
            rw [HRE.out]
            exact TextsPost.none _ (below_then hbw hbl3)
          have hse : (str r).size - (k + i) = q.length := by
            have h1 := congrArg ByteArray.size HXT2.out
            rw [HSQ.out] at h1
            rw [← h1]; simp
          have g6 : decide ((str r).size - (k + i) < m) = false := decide_eq_false (by omega)
          have g6' : decide ((((str r).size - (k + i) : Nat) : Int) < (m : Int)) = false := decide_eq_false (by omega)
          have HE6 := next_e6 hto h3 h4 h5
          have HSH := Lib.hid (fun W => sharedOf_any last (last.take x ++ q.take m) W (by unfold maxLen; omega) (by rw [List.length_append, List.length_take, List.length_take]; unfold maxLen; omega))
          have hq16 := F.sh_le_left last (last.take x ++ q.take m)
          have hxL : x ≤ (str last).size := by have := HSL.out; omega
          have hmQ : m ≤ (str q).size := by have := HSQ.out; omega
          have HCT := Lib.hid (show str (last.take x ++ q.take m) = (str last).extract 0 x ++ ((str r).extract (k + i) (str r).size).extract 0 m by
            rw [HXT2.out]
            apply ByteArray.ext; apply Array.toList_inj.mp
            simp [str])
          have htl : (last.take x ++ q.take m).length ≤ 16 := by rw [List.length_append, List.length_take, List.length_take]; omega
          have HXT3 := Lib.hid (show ((str r).extract (k + i) (str r).size).extract m ((str r).size - (k + i)) = str (q.drop m) by
            rw [hse, ← HSQ.out, HXT2.out]
            apply ByteArray.ext; apply Array.toList_inj.mp
            rw [show ((str q).extract m (str q).size).data.toList = (str q).data.toList.drop m from cut_data _ m]; rfl)
          have hdl : (q.drop m).length ≤ 9223372036854775807 := by rw [List.length_drop]; omega
          have hmS : m ≤ (str r).size - (k + i) := by omega
          have hxLI : (x : Int) ≤ ((str last).size : Int) := by omega
          have hmSI : (m : Int) ≤ (((str r).size - (k + i) : Nat) : Int) := by omega
          rw [HCT.out] at HSH
          have hc1 : ¬ 9223372036854775807 < min x (str last).size + min m ((str r).size - (k + i)) := by omega
          have hc2 : ¬ 9223372036854775807 < x + m := by omega
          clear hse
          generalize last.take x ++ q.take m = t at *
          generalize F.sh last t = z at *
          generalize q.drop m = q2 at *
          generalize str r = S at *
          generalize str q = Q at *
          generalize str last = L at *
          by_cases h6 : z ≠ x
          · rw [if_pos h6] at HE6
            have HRE := Lib.hid (HERR.out 1 (by decide) HE6)
            have g7 : ((z : Int) != (x : Int)) = true := by rw [bne_iff_ne]; omega
            clear HGO HERR HJ hto h4 h3 h5 h6 HE6
            go_wp2_with fail
            refine (HV1.out).mono ?_
            rintro e2 w1 ⟨rfl, hbl⟩
            go_wp2_with fail
            refine (HV2.out _).mono ?_
            rintro e3 w2 ⟨rfl, hbl2⟩
            have hbl3 := below_then hbl hbl2
            go_wp2_with fail
            go_quiet (fail)
            go_wp2_with fail
            refine (HSH.out _).mono ?_
            rintro e4 w4 ⟨rfl, d, rfl⟩
            go_wp2_with fail
            go_ret2
            rw [HRE.out]
            exact TextsPost.none 1 (below_drewN (below_then hbw hbl3) _)
          · rw [if_neg h6] at HE6
            have hGO := HGO.out
            rw [HE6] at hGO
            have HRN := Lib.hid (show R = glue (acc ++ [t]) (F.fr (n - (j + 1)) t q2) from hGO rfl)
            have g7 : ((z : Int) != (x : Int)) = false := by rw [bne_eq_false_iff_eq]; omega
            have hJ2 := HJ2.out
            have hlb : (acc.length + 1) * 16 ≤ 140737488355328 := by omega
            clear HGO HERR HJ hto h4 h3 h5 h6 HE6 hGO hJ2
            go_wp2_with fail
            refine (HV1.out).mono ?_
            rintro e2 w1 ⟨rfl, hbl⟩
            go_wp2_with fail
            refine (HV2.out _).mono ?_
            rintro e3 w2 ⟨rfl, hbl2⟩
            have hbl3 := below_then hbl hbl2
            have hrw2 := (HRW.out).below hbl3
            have hszw := (below_then hbw hbl3).size
            go_wp2_with fail
            go_quiet (fail)
            go_wp2_with fail
            refine (HSH.out _).mono ?_
            rintro e4 w4 ⟨rfl, hd⟩
            have hb4 : Below w2.heap.size w2 w4 := by obtain ⟨d, rfl⟩ := hd; exact below_drewN (below_drewN (Below.refl _ _) _) _
            clear hd
            have hrw4 := hrw2.below hb4
            have hbw4 := below_then (below_then hbw hbl3) hb4
            have HROW := Lib.hid hrw4
            rw [← HCT.out]
            clear hrw4 hrw2
            generalize hT : str t = T at *
            have hb5 : w.heap.size ≤ (w4.alloc (.cells #[.string T] 9)).heap.size := by have := hbw4.size; simp; omega
            go_wp2_with (at_builtin; refine wpList_append_onet rfl (.tmp 78) (.tmp 80) rfl w.heap.size _ acc rfl (HROW.out.alloc_ _) w4.heap.size t rfl (by rw [hT]; exact World.cell?_alloc_new _ _ _ _) hlb hb5 ?_)
            intro v' w5 hown5 hb5w
            have hbw5 : Below w.heap.size w w5 := (hbw4.alloc hbw4.size _).trans hb5w
            have HL2 := Lib.hid (show (acc ++ [t]).length = j + 1 by have h2 := HJ2.out; rw [h2]; simp)
            have HV := Lib.hid (show ∃ a c, v' = .slice a (j + 1) c by obtain ⟨a', c', e', _⟩ := tRow_txts hown5; exact ⟨a', c', by rw [e', HL2.out]⟩)
            go_wp2_with fail
            refine ⟨⟨acc ++ [t], t, q2, by rw [HL2.out]; omega, by rw [HXT3.out], by rw [hT], htl, hdl, hown5, hbw5, Lib.hid (by rw [HL2.out]; exact HRN.out)⟩, ?_⟩
            obtain ⟨a', c', e'⟩ := HV.out
            rw [e']
            show n - (j + 1) < n - j
            omega
        · have hfb : f = 5 ∨ f = 1 := by
            rcases hb2 with h | h | h
            · exact absurd h h02
            · exact Or.inl ((Prod.mk.injEq _ _ _ _).mp ((Prod.mk.injEq _ _ _ _).mp h).2).2
            · exact Or.inr ((Prod.mk.injEq _ _ _ _).mp ((Prod.mk.injEq _ _ _ _).mp h).2).2
          have HRE := Lib.hid (HERR.out f h02 (next_e2 he hf h02))
          have g3 : ((f : Int) != 0) = true := by rw [bne_iff_ne]; omega
          generalize str r = S at *
          clear HGO HERR hsr he hf HJ h02 hfb hb2
          go_wp2_with fail
          refine (HV1.out).mono ?_
          rintro e2 w1 ⟨rfl, hbl⟩
          go_wp2_with fail
          refine (HV2.out _).mono ?_
          rintro e3 w2 ⟨rfl, hbl2⟩
          have hbl3 := below_then hbl hbl2
          go_wp2_with fail
          go_ret2
          rw [HRE.out]
          exact TextsPost.none _ (below_then hbw hbl3)
      · have g3 : ((e : Int) != 0) = true := by rw [bne_iff_ne]; omega
        have HRE := Lib.hid (HERR.out e h0 (next_e1 he h0))
        generalize str r = S at *
        clear HGO HERR hsr hb1 he HJ
        go_wp2_with fail
        refine (HV1.out).mono ?_
        rintro e2 w1 ⟨rfl, hbl⟩
        go_wp2_with fail
        go_ret2
        rw [HRE.out]
        exact TextsPost.none _ (below_then hbw hbl)
    · obtain rfl : j = n := by omega
      rw [Nat.sub_self, glue_end] at HJ
      have hsr := str_size r
      by_cases hr0 : r = []
      · subst hr0
        have HRN := Lib.hid (show R = (acc, 0) by rw [HJ.out, if_pos rfl])
        have hne : decide (0 < (str []).size) = false := by rw [str_size]; rfl
        have hne2 : decide ((0 : Int) < ((str []).size : Int)) = false := by rw [str_size]; rfl
        clear HJ hrw hsr
        go_wp2_with fail
        go_ret2
        rw [HRN.out]
        exact ⟨a0, c0, by simp only; rw [← HJ2.out]; rfl, htx, hbw⟩
      · have HRN := Lib.hid (show R = ([], 1) by rw [HJ.out, if_neg hr0])
        have hpos := List.length_pos_iff.2 hr0
        have hne : decide (0 < (str r).size) = true := decide_eq_true (by omega)
        have hne2 : decide ((0 : Int) < ((str r).size : Int)) = true := decide_eq_true (by omega)
        generalize str r = S at *
        clear HJ hrw
        go_wp2_with fail
        go_ret2
        rw [HRN.out]
        exact TextsPost.none 1 hbw

set_option maxHeartbeats 400000 in
theorem fof_low (s : ByteArray) (n : Int) (w : World) (hn : n < 0) :
    Calls Tryz.prog 64 #[.string s, .int .i64 n] w (TextsPost ([], 3) w) := by
  go_enter Tryz.func64, Tryz.ntmps64
  go_wp2_with fail
  go_ret2
  exact TextsPost.none 3 (Below.refl _ _)
set_option maxHeartbeats 400000 in
theorem fof_high (s : ByteArray) (n : Int) (w : World) (h0 : ¬ n < 0) (hn : 64 < n) :
    Calls Tryz.prog 64 #[.string s, .int .i64 n] w (TextsPost ([], 2) w) := by
  go_enter Tryz.func64, Tryz.ntmps64
  go_wp2_with fail
  go_ret2
  exact TextsPost.none 2 (Below.refl _ _)

theorem fof_any (s : List UInt8) (n : Int) (w : World) (hs : s.length ≤ maxLen) :
    Calls Tryz.prog 64 #[.string (str s), .int .i64 n] w (TextsPost (freadR s n) w) := by
  unfold freadR
  by_cases h0 : n < 0
  · rw [if_pos h0]; exact fof_low _ n w h0
  rw [if_neg h0]
  by_cases h1 : 64 < n
  · rw [if_pos h1]; exact fof_high _ n w h0 h1
  rw [if_neg h1]
  have := fof_ok s n.toNat w hs (by omega)
  rwa [show ((n.toNat : Nat) : Int) = n by omega] at this
end Go.Proofs.YtmiboibadccceaaGreat
/- Out of BitsP: packed_zero, packed_any. -/
namespace Go.Proofs.YtmiboibadccceaaGreat
open Go.RowKit
set_option linter.unusedVariables false

set_option maxHeartbeats 400000 in
theorem packed_zero (a : Option Addr) (c k n : Nat) (w : World) (hk : k ≤ 64) (hn : n ≤ 64) (h : k * n = 0) :
    Calls Tryz.prog 41 #[.slice a k c, .int .i64 n] w (TextPost [] w) := by
  have hmulI : ((k : Int) * (n : Int)) = ((k * n : Nat) : Int) := by simp
  rw [h] at hmulI
  clear h
  go_enter Tryz.func41, Tryz.ntmps41
  go_wp2_with fail
  refine wp_loop_rounds 1 ?_
  rw [rounds_succ]
  go_wp2_with fail
  go_ret
  exact ⟨rfl, Below.refl _ _⟩
theorem packed_any (a : Option Addr) (c : Nat) (l : List Nat) (n : Nat) (w : World) (hl : l.length ≤ 64) (hn2 : n ≤ 64) (hf : ∀ x ∈ l, x < 2 ^ n) (hx : ∀ x ∈ l, x < 18446744073709551616) (hu : Nums w w.heap.size a l) :
    Calls Tryz.prog 41 #[.slice a l.length c, .int .i64 n] w (TextPost (B.le (B.sz (l.length * n)) (B.pk n l)) w) := by
  by_cases h : l.length * n = 0
  · rw [h]; exact packed_zero a c _ n w hl hn2 h
  · have hn : 1 ≤ n := by
      rcases Nat.eq_zero_or_pos n with h0 | h0
      · rw [h0] at h; simp at h
      · exact h0
    have hne : l ≠ [] := by intro e; rw [e] at h; simp at h
    obtain ⟨b, off, rfl, hb, hc⟩ := hu hne
    exact packed_some b off c l n w hl hn hn2 hf hx hb hc
end Go.Proofs.YtmiboibadccceaaGreat
/- Out of PL1: pbytes_length. -/
namespace Go.Proofs.YtmiboibadccceaaGreat
open Go.RowKit
set_option linter.unusedVariables false

theorem pbytes_length (l : List Nat) (hl : l.length ≤ 64) : (P.bytes l).length ≤ 1048576 := by
  rw [P.bytes_length, P.cost_eq, P.more_length]
  have h1 := V.sz_le (P.base l)
  have h2 := P.extra_le (P.best (P.more l)) (P.more l)
  rw [P.more_length] at h2
  have h3 := Nat.mul_le_mul hl (P.best_le (P.more l))
  unfold B.sz; omega
end Go.Proofs.YtmiboibadccceaaGreat
/- A region that draws its order, whose operations only read, and whose callees leave the old blocks alone: walked once, in the order of the text. -/
namespace Go.Proofs.YtmiboibadccceaaGreat
open Go.RowKit
set_option linter.unusedVariables false

/-- a world in which all blocks of w0 are as they were -/
structure WB (w0 : World) where
  w : World
  below : Below w0.heap.size w0 w
instance wbHas (w0 : World) : Nonempty (WB w0) := ⟨⟨w0, Below.refl _ _⟩⟩
theorem WB.cell {w0 : World} (p : WB w0) {b o : Nat} {v : Value} (hb : b < w0.heap.size) (h : w0.cell? ⟨b, o, none⟩ = some v) : p.w.cell? ⟨b, o, none⟩ = some v := (p.below.cell (p := ⟨b, o, none⟩) hb).trans h
theorem wp_region_wb {P : Program} {id : Nat} {Q : Exit → Act → World → Prop} {a : Act} {w : World} {l : List Oper} (hm : P.follows .mixedOrders = true) (hB : Region.lexB .any l.toArray = true)
    (h : wpQuiet P l.toArray (fun w' => ∃ p : WB w, w' = p.w) (fun a' => ∀ w', (∃ p : WB w, w' = p.w) → Q .normal a' w') l a) : (Code.region id l.toArray true).wp P Q a w :=
  wp_region_quiet (C := fun w' => ∃ p : WB w, w' = p.w) hm hB ⟨⟨_, (Below.refl w.heap.size w).drew⟩, rfl⟩ (by simpa using h)
theorem calls_wb {P : Program} {f : FuncId} {args : Array Value} {w0 : World} {p : WB w0} {v : Value} (h : Calls P f args p.w fun e w' => e = .returned v ∧ Below p.w.heap.size p.w w') :
    Calls P f args p.w fun e w'' => e = .returned v ∧ ∃ p' : WB w0, w'' = p'.w := h.mono fun _ _ ⟨he, hb⟩ => ⟨he, ⟨_, below_then p.below hb⟩, rfl⟩

/-- hidden even from unfolding -/
structure Veil (p : Prop) : Prop where
  out : p
/- The same walk with what follows hidden: else each 'refine' lays open all operations that follow and are not wanted (ten in a row: no end).
   One step: (refine wq_step (fun K hK => ?_); go_simp; first | (refine hK _ ?_; clear hK K) | (apply Exists.intro; refine ⟨fun _ => ?_, hK _ ?_⟩; (the call's arms); clear hK K)) -/
theorem wq_step {P : Program} {ops : Array Oper} {C : World → Prop} {Q : Act → Prop} {a : Act} {o : Oper} {rest : List Oper}
    (h : ∀ K : Act → Prop, (∀ a, Veil (wpQuiet P ops C Q rest a) → K a) → if Region.wanted o (yielded ops a.tmps) then o.quiet P a C K else K (a.put o.dst undef)) : Veil (wpQuiet P ops C Q (o :: rest) a) :=
  ⟨wpQuiet_step fun K hK => h K fun a k => hK a k.out⟩
theorem wq_nil {P : Program} {ops : Array Oper} {C : World → Prop} {Q : Act → Prop} {a : Act} (h : Q a) : Veil (wpQuiet P ops C Q [] a) := ⟨wpQuiet_nil h⟩
theorem wp_region_wbh {P : Program} {id : Nat} {Q : Exit → Act → World → Prop} {a : Act} {w : World} {l : List Oper} (hm : P.follows .mixedOrders = true) (hB : Region.lexB .any l.toArray = true)
    (h : Veil (wpQuiet P l.toArray (fun w' => ∃ p : WB w, w' = p.w) (fun a' => ∀ w', (∃ p : WB w, w' = p.w) → Q .normal a' w') l a)) : (Code.region id l.toArray true).wp P Q a w :=
  wp_region_wb hm hB h.out
end Go.Proofs.YtmiboibadccceaaGreat
/- The walks of hypostyleref.bookWidth, NumberBytes. -/
namespace Go.Proofs.YtmiboibadccceaaGreat
open Go.RowKit
set_option linter.unusedVariables false

/-- the width of places in a book of so many texts -/
def bw (n : Nat) : Nat := if n ≤ 1 then 0 else B.bl (n - 1)

set_option maxHeartbeats 1000000 in
theorem bookWidth_any (n : Nat) (w : World) (hn : n ≤ 64) :
    Calls Tryz.prog 53 #[.int .i64 n] w fun e w' => e = .returned (.int .i64 (bw n : Nat)) ∧ w = w' := by
  by_cases h1 : n ≤ 1
  · have HR := Lib.hid (show bw n = 0 from if_pos h1)
    have g1 : decide ((1 : Int) < (n : Int)) = false := decide_eq_false (by omega)
    clear h1
    go_enter Tryz.func53, Tryz.ntmps53
    go_wp2_with fail
    refine wp_loop_rounds 1 ?_
    rw [rounds_succ]
    go_wp2_with fail
    go_ret
    exact ⟨by rw [HR.out]; rfl, rfl⟩
  · obtain ⟨q, hq⟩ : ∃ q, n = q + 1 := ⟨n - 1, by omega⟩
    subst hq
    have HR := Lib.hid (show bw (q + 1) = B.bl q by unfold bw; rw [if_neg h1, Nat.add_sub_cancel])
    have hbl : B.bl q ≤ 64 := (B.bl_le q 64).2 (by omega)
    have HF := Lib.hid (fun k (hk : k ≤ 64) => fits_any q k w (by omega) hk)
    generalize B.bl q = m at *
    obtain ⟨N, hN⟩ : ∃ N : Int, N = ((q + 1 : Nat) : Int) := ⟨_, rfl⟩
    have g1 : decide ((1 : Int) < N) = true := decide_eq_true (by omega)
    have hw1 : IntKind.i64.wrap (N - 1) = (q : Int) := by rw [IntKind.wrap_i64]; omega
    have hw2 : IntKind.u64.wrap (q : Int) = (q : Int) := by rw [IntKind.wrap_u64]; omega
    rw [← hN]
    clear hN hn
    clear h1
    go_enter Tryz.func53, Tryz.ntmps53
    go_wp2_with fail
    go_loop [3] (fun i => ∃ k : Nat, Hid (k ≤ m) ∧ i = .int .i64 k) (fun i => m - (intOf i).toNat)
    case atStart => exact ⟨0, Lib.hid (by omega), rfl⟩
    case round =>
      obtain ⟨k, HKM, rfl⟩ := hrel
      have hk := HKM.out
      have HFK := Lib.hid (HF.out k (by omega))
      by_cases hlt : k < m
      · have hd : decide (m ≤ k) = false := decide_eq_false (by omega)
        rw [hd] at HFK
        go_wp2_with fail
        refine (HFK.out).mono ?_
        rintro e w1 ⟨rfl, rfl⟩
        go_wp2_with fail
        exact ⟨⟨k + 1, Lib.hid (by omega), by go_num⟩, by simp [intOf]; omega⟩
      · obtain rfl : k = m := by omega
        rw [decide_eq_true (Nat.le_refl k)] at HFK
        go_wp2_with fail
        refine (HFK.out).mono ?_
        rintro e w1 ⟨rfl, rfl⟩
        go_wp2_with fail
        go_ret
        exact ⟨by rw [HR.out]; rfl, rfl⟩

/-- numbers by a way -/
def nbW (way : Nat) (l : List Nat) : List UInt8 :=
  if way = 1 then [1] ++ [UInt8.ofNat (B.wd l)] ++ B.le (B.sz (l.length * B.wd l)) (B.pk (B.wd l) l)
  else if way = 2 then [2] ++ [UInt8.ofNat (B.wd l)] ++ H.bytes (B.wd l) l
  else if way = 3 then [3] ++ dbytes l else [4] ++ P.bytes l
theorem dbytes_len (l : List Nat) (hl : l.length ≤ 64) (hx : ∀ x ∈ l, x < 18446744073709551616) : (dbytes l).length ≤ 1048576 := by
  unfold dbytes
  by_cases h : l = []
  · rw [if_pos h]; simp
  · rw [if_neg h]
    have h1 := V.sz_le (l.headD 0)
    have h2 := H.bytes_len (B.wd (dz l)) (dz l)
    have h3 := dz_length l
    have h4 : B.wd (dz l) ≤ 64 := B.wd_64 _ (dz_lt l hx)
    have h5 : (18 + B.wd (dz l)) * (dz l).length ≤ 82 * 64 := Nat.mul_le_mul (by omega) (by omega)
    simp only [List.length_append, V.enc_length, List.length_cons, List.length_nil]
    omega

theorem text_cat (x y : List UInt8) : str x ++ str y = str (x ++ y) := str_append x y

set_option maxHeartbeats 2000000 in
set_option maxRecDepth 100000 in
theorem numberBytes_any (way : Nat) (a : Option Addr) (c : Nat) (l : List Nat) (w : World) (hway : 1 ≤ way ∧ way ≤ 4) (hl : l.length ≤ 64) (hcap : l.length ≤ c) (hcm : c ≤ maxLen) (hx : ∀ x ∈ l, x < 18446744073709551616) (hu : Nums w w.heap.size a l) :
    Calls Tryz.prog 15 #[.slice a l.length c, .int .i64 way] w (TextPost (nbW way l) w) := by
  have hW := rwidth_any a c l w _ (by unfold maxLen; omega) hx hu
  have hwd : B.wd l ≤ 64 := B.wd_64 l hx
  have hfit := (B.wd_le l (B.wd l)).1 (Nat.le_refl _)
  have HW := Lib.hid hW
  have HO := Lib.hid (fun n W (h : n < 9223372036854775807) => one_any n W h)
  have HPK := Lib.hid (fun W (hb : Below w.heap.size w W) => packed_any a c l (B.wd l) W hl hwd hfit hx (hu.next hb))
  have HHY := Lib.hid (fun W (hb : Below w.heap.size w W) => hbytes_any a c l (B.wd l) W (by omega) hcap hcm hwd hfit (hu.next hb))
  have HDL := Lib.hid (fun W (hb : Below w.heap.size w W) => rdbytes_any a c l W (by omega) hx (hu.next hb))
  have HPA := Lib.hid (fun W (hb : Below w.heap.size w W) => rpatch_any a c l W hl hx (hu.next hb))
  have b1 : (B.le (B.sz (l.length * B.wd l)) (B.pk (B.wd l) l)).length ≤ 1048576 := by
    rw [B.le_length]; unfold B.sz
    have := Nat.mul_le_mul hl hwd
    omega
  have b2 : (H.bytes (B.wd l) l).length ≤ 1048576 := by
    have := H.bytes_len (B.wd l) l
    have h5 : (18 + B.wd l) * l.length ≤ 82 * 64 := Nat.mul_le_mul (by omega) hl
    omega
  have b3 := dbytes_len l hl hx
  have b4 := pbytes_length l hl
  obtain ⟨h1, h2⟩ := hway
  have hway4 : way = 1 ∨ way = 2 ∨ way = 3 ∨ way = 4 := by omega
  rcases hway4 with rfl | rfl | rfl | rfl
  · have HR := Lib.hid (show str (nbW 1 l) = str [1] ++ str [UInt8.ofNat (B.wd l)] ++ str (B.le (B.sz (l.length * B.wd l)) (B.pk (B.wd l) l)) by rw [text_cat, text_cat]; rfl)
    have HO1 := Lib.hid (show ∀ W, Calls Tryz.prog 40 #[.int .i64 1] W (TextPost [1] W) from fun W => HO.out 1 W (by omega))
    have HO2 := Lib.hid (fun W => HO.out (B.wd l) W (by omega))
    have s1 := str_size [1]
    have s2 := str_size [UInt8.ofNat (B.wd l)]
    have s3 := str_size (B.le (B.sz (l.length * B.wd l)) (B.pk (B.wd l) l))
    unfold TextPost at HO1 HO2 HPK ⊢
    generalize str (nbW 1 l) = R at *
    generalize B.wd l = wd at *
    generalize str [1] = t1 at *
    generalize str [UInt8.ofNat wd] = t2 at *
    generalize str (B.le (B.sz (l.length * wd)) (B.pk wd l)) = t3 at *
    simp only [List.length_cons, List.length_nil] at s1 s2
    have c1 : ¬ 9223372036854775807 < t1.size + t2.size := by omega
    have c2 : ¬ 9223372036854775807 < t1.size + t2.size + t3.size := by omega
    clear HO HHY HDL HPA hW hfit b1 b2 b3 b4 s1 s2 s3 hx hu
    go_enter Tryz.func15, Tryz.ntmps15
    go_wp2_with fail
    refine (HW.out).mono ?_
    rintro e w1 ⟨rfl, rfl⟩
    go_wp2_with fail
    refine (HO1.out _).mono ?_
    rintro e w2 ⟨rfl, hb2⟩
    go_wp2_with fail
    refine (HO2.out _).mono ?_
    rintro e w3 ⟨rfl, hb3⟩
    have h3 := below_then hb2 hb3
    go_wp2_with fail
    refine (HPK.out _ h3).mono ?_
    rintro e w4 ⟨rfl, hb4⟩
    go_wp2_with fail
    go_ret
    exact ⟨by rw [HR.out]; rfl, below_then h3 hb4⟩
  · have HR := Lib.hid (show str (nbW 2 l) = str [2] ++ str [UInt8.ofNat (B.wd l)] ++ str (H.bytes (B.wd l) l) by rw [text_cat, text_cat]; rfl)
    have HO1 := Lib.hid (show ∀ W, Calls Tryz.prog 40 #[.int .i64 2] W (TextPost [2] W) from fun W => HO.out 2 W (by omega))
    have HO2 := Lib.hid (fun W => HO.out (B.wd l) W (by omega))
    have s1 := str_size [2]
    have s2 := str_size [UInt8.ofNat (B.wd l)]
    have s3 := str_size (H.bytes (B.wd l) l)
    unfold TextPost at HO1 HO2 HHY ⊢
    generalize str (nbW 2 l) = R at *
    generalize B.wd l = wd at *
    generalize str [2] = t1 at *
    generalize str [UInt8.ofNat wd] = t2 at *
    generalize str (H.bytes wd l) = t3 at *
    simp only [List.length_cons, List.length_nil] at s1 s2
    have c1 : ¬ 9223372036854775807 < t1.size + t2.size := by omega
    have c2 : ¬ 9223372036854775807 < t1.size + t2.size + t3.size := by omega
    clear HO HPK HDL HPA hW hfit b1 b2 b3 b4 s1 s2 s3 hx hu
    go_enter Tryz.func15, Tryz.ntmps15
    go_wp2_with fail
    refine (HW.out).mono ?_
    rintro e w1 ⟨rfl, rfl⟩
    go_wp2_with fail
    refine (HO1.out _).mono ?_
    rintro e w2 ⟨rfl, hb2⟩
    go_wp2_with fail
    refine (HO2.out _).mono ?_
    rintro e w3 ⟨rfl, hb3⟩
    have h3 := below_then hb2 hb3
    go_wp2_with fail
    refine (HHY.out _ h3).mono ?_
    rintro e w4 ⟨rfl, hb4⟩
    go_wp2_with fail
    go_ret
    exact ⟨by rw [HR.out]; rfl, below_then h3 hb4⟩
  · have HR := Lib.hid (show str (nbW 3 l) = str [3] ++ str (dbytes l) by rw [text_cat]; rfl)
    have HO1 := Lib.hid (show ∀ W, Calls Tryz.prog 40 #[.int .i64 3] W (TextPost [3] W) from fun W => HO.out 3 W (by omega))
    have s1 := str_size [3]
    have s3 := str_size (dbytes l)
    unfold TextPost at HO1 HDL ⊢
    generalize str (nbW 3 l) = R at *
    generalize str [3] = t1 at *
    generalize str (dbytes l) = t3 at *
    simp only [List.length_cons, List.length_nil] at s1
    have c1 : ¬ 9223372036854775807 < t1.size + t3.size := by omega
    clear HO HPK HHY HPA hW hfit b1 b2 b3 b4 s1 s3 hx hu
    go_enter Tryz.func15, Tryz.ntmps15
    go_wp2_with fail
    refine (HW.out).mono ?_
    rintro e w1 ⟨rfl, rfl⟩
    go_wp2_with fail
    refine (HO1.out _).mono ?_
    rintro e w2 ⟨rfl, hb2⟩
    go_wp2_with fail
    refine (HDL.out _ hb2).mono ?_
    rintro e w4 ⟨rfl, hb4⟩
    go_wp2_with fail
    go_ret
    exact ⟨by rw [HR.out]; rfl, below_then hb2 hb4⟩
  · have HR := Lib.hid (show str (nbW 4 l) = str [4] ++ str (P.bytes l) by rw [text_cat]; rfl)
    have HO1 := Lib.hid (show ∀ W, Calls Tryz.prog 40 #[.int .i64 4] W (TextPost [4] W) from fun W => HO.out 4 W (by omega))
    have s1 := str_size [4]
    have s3 := str_size (P.bytes l)
    unfold TextPost at HO1 HPA ⊢
    generalize str (nbW 4 l) = R at *
    generalize str [4] = t1 at *
    generalize str (P.bytes l) = t3 at *
    simp only [List.length_cons, List.length_nil] at s1
    have c1 : ¬ 9223372036854775807 < t1.size + t3.size := by omega
    clear HO HPK HHY HDL hW hfit b1 b2 b3 b4 s1 s3 hx hu
    go_enter Tryz.func15, Tryz.ntmps15
    go_wp2_with fail
    refine (HW.out).mono ?_
    rintro e w1 ⟨rfl, rfl⟩
    go_wp2_with fail
    refine (HO1.out _).mono ?_
    rintro e w2 ⟨rfl, hb2⟩
    go_wp2_with fail
    refine (HPA.out _ hb2).mono ?_
    rintro e w4 ⟨rfl, hb4⟩
    go_wp2_with fail
    go_ret
    exact ⟨by rw [HR.out]; rfl, below_then hb2 hb4⟩
end Go.Proofs.YtmiboibadccceaaGreat
/- The walk of hypostyleref.BestNumberBytes. -/
namespace Go.Proofs.YtmiboibadccceaaGreat
open Go.RowKit
set_option linter.unusedVariables false

/-- of two the first, if it is not longer -/
def bstep (t s : List UInt8) : List UInt8 := if t.length ≤ s.length then t else s
def bestNW (l : List Nat) : List UInt8 := bstep (nbW 1 l) (bstep (nbW 2 l) (bstep (nbW 3 l) (nbW 4 l)))
theorem bstep_str (t s : List UInt8) : str (bstep t s) = if (str t).size ≤ (str s).size then str t else str s := by
  unfold bstep; rw [str_size, str_size]
  by_cases h : t.length ≤ s.length
  · rw [if_pos h, if_pos h]
  · rw [if_neg h, if_neg h]

set_option maxHeartbeats 2000000 in
set_option maxRecDepth 100000 in
theorem bestNumberBytes_any (a : Option Addr) (c : Nat) (l : List Nat) (w : World) (hl : l.length ≤ 64) (hcap : l.length ≤ c) (hcm : c ≤ maxLen) (hx : ∀ x ∈ l, x < 18446744073709551616) (hu : Nums w w.heap.size a l) :
    Calls Tryz.prog 14 #[.slice a l.length c] w (TextPost (bestNW l) w) := by
  have HN := Lib.hid (fun way (h : 1 ≤ way ∧ way ≤ 4) W (hb : Below w.heap.size w W) => numberBytes_any way a c l W h hl hcap hcm hx (hu.next hb))
  have H4 := Lib.hid (show ∀ W, Below w.heap.size w W → Calls Tryz.prog 15 #[.slice a l.length c, .int .i64 4] W (TextPost (nbW 4 l) W) from fun W hb => HN.out 4 (by omega) W hb)
  have H3 := Lib.hid (show ∀ W, Below w.heap.size w W → Calls Tryz.prog 15 #[.slice a l.length c, .int .i64 3] W (TextPost (nbW 3 l) W) from fun W hb => HN.out 3 (by omega) W hb)
  have H2 := Lib.hid (show ∀ W, Below w.heap.size w W → Calls Tryz.prog 15 #[.slice a l.length c, .int .i64 2] W (TextPost (nbW 2 l) W) from fun W hb => HN.out 2 (by omega) W hb)
  have H1 := Lib.hid (show ∀ W, Below w.heap.size w W → Calls Tryz.prog 15 #[.slice a l.length c, .int .i64 1] W (TextPost (nbW 1 l) W) from fun W hb => HN.out 1 (by omega) W hb)
  have hR : str (bestNW l) = _ := bstep_str (nbW 1 l) (bstep (nbW 2 l) (bstep (nbW 3 l) (nbW 4 l)))
  rw [bstep_str (nbW 2 l), bstep_str (nbW 3 l)] at hR
  have HR := Lib.hid hR
  unfold TextPost at H4 H3 H2 H1 ⊢
  generalize str (bestNW l) = R at *
  generalize str (nbW 4 l) = t4 at *
  generalize str (nbW 3 l) = t3 at *
  generalize str (nbW 2 l) = t2 at *
  generalize str (nbW 1 l) = t1 at *
  clear hR HN hx hu
  go_enter Tryz.func14, Tryz.ntmps14
  go_wp2_with fail
  refine (H4.out _ (Below.refl _ _)).mono ?_
  rintro e w4 ⟨rfl, hb4⟩
  go_wp2_with fail
  refine wp_loop_rounds 4 ?_
  rw [rounds_succ]
  go_wp2_with fail
  refine (H3.out _ hb4).mono ?_
  rintro e w3 ⟨rfl, hc3⟩
  have hb3 := below_then hb4 hc3
  by_cases d3 : t3.size ≤ t4.size
  · have e3 : decide ((t3.size : Int) ≤ (t4.size : Int)) = true := by exact decide_eq_true (by omega)
    skip
    go_wp2_with fail
    rw [rounds_succ]
    go_wp2_with fail
    refine (H2.out _ hb3).mono ?_
    rintro e w2 ⟨rfl, hc2⟩
    have hb2 := below_then hb3 hc2
    by_cases d2 : t2.size ≤ t3.size
    · have e2 : decide ((t2.size : Int) ≤ (t3.size : Int)) = true := by exact decide_eq_true (by omega)
      skip
      go_wp2_with fail
      rw [rounds_succ]
      go_wp2_with fail
      refine (H1.out _ hb2).mono ?_
      rintro e w1 ⟨rfl, hc1⟩
      have hb1 := below_then hb2 hc1
      by_cases d1 : t1.size ≤ t2.size
      · have e1 : decide ((t1.size : Int) ≤ (t2.size : Int)) = true := by exact decide_eq_true (by omega)
        go_wp2_with fail
        rw [rounds_succ]
        go_wp2_with fail
        go_ret
        exact ⟨by rw [HR.out, if_pos d3, if_pos d2, if_pos d1]; rfl, hb1⟩
      · have e1 : decide ((t1.size : Int) ≤ (t2.size : Int)) = false := by exact decide_eq_false (by omega)
        go_wp2_with fail
        rw [rounds_succ]
        go_wp2_with fail
        go_ret
        exact ⟨by rw [HR.out, if_pos d3, if_pos d2, if_neg d1]; rfl, hb1⟩
    · have e2 : decide ((t2.size : Int) ≤ (t3.size : Int)) = false := by exact decide_eq_false (by omega)
      skip
      go_wp2_with fail
      rw [rounds_succ]
      go_wp2_with fail
      refine (H1.out _ hb2).mono ?_
      rintro e w1 ⟨rfl, hc1⟩
      have hb1 := below_then hb2 hc1
      by_cases d1 : t1.size ≤ t3.size
      · have e1 : decide ((t1.size : Int) ≤ (t3.size : Int)) = true := by exact decide_eq_true (by omega)
        go_wp2_with fail
        rw [rounds_succ]
        go_wp2_with fail
        go_ret
        exact ⟨by rw [HR.out, if_pos d3, if_neg d2, if_pos d1]; rfl, hb1⟩
      · have e1 : decide ((t1.size : Int) ≤ (t3.size : Int)) = false := by exact decide_eq_false (by omega)
        go_wp2_with fail
        rw [rounds_succ]
        go_wp2_with fail
        go_ret
        exact ⟨by rw [HR.out, if_pos d3, if_neg d2, if_neg d1]; rfl, hb1⟩
  · have e3 : decide ((t3.size : Int) ≤ (t4.size : Int)) = false := by exact decide_eq_false (by omega)
    skip
    go_wp2_with fail
    rw [rounds_succ]
    go_wp2_with fail
    refine (H2.out _ hb3).mono ?_
    rintro e w2 ⟨rfl, hc2⟩
    have hb2 := below_then hb3 hc2
    by_cases d2 : t2.size ≤ t4.size
    · have e2 : decide ((t2.size : Int) ≤ (t4.size : Int)) = true := by exact decide_eq_true (by omega)
      skip
      go_wp2_with fail
      rw [rounds_succ]
      go_wp2_with fail
      refine (H1.out _ hb2).mono ?_
      rintro e w1 ⟨rfl, hc1⟩
      have hb1 := below_then hb2 hc1
      by_cases d1 : t1.size ≤ t2.size
      · have e1 : decide ((t1.size : Int) ≤ (t2.size : Int)) = true := by exact decide_eq_true (by omega)
        go_wp2_with fail
        rw [rounds_succ]
        go_wp2_with fail
        go_ret
        exact ⟨by rw [HR.out, if_neg d3, if_pos d2, if_pos d1]; rfl, hb1⟩
      · have e1 : decide ((t1.size : Int) ≤ (t2.size : Int)) = false := by exact decide_eq_false (by omega)
        go_wp2_with fail
        rw [rounds_succ]
        go_wp2_with fail
        go_ret
        exact ⟨by rw [HR.out, if_neg d3, if_pos d2, if_neg d1]; rfl, hb1⟩
    · have e2 : decide ((t2.size : Int) ≤ (t4.size : Int)) = false := by exact decide_eq_false (by omega)
      skip
      go_wp2_with fail
      rw [rounds_succ]
      go_wp2_with fail
      refine (H1.out _ hb2).mono ?_
      rintro e w1 ⟨rfl, hc1⟩
      have hb1 := below_then hb2 hc1
      by_cases d1 : t1.size ≤ t4.size
      · have e1 : decide ((t1.size : Int) ≤ (t4.size : Int)) = true := by exact decide_eq_true (by omega)
        go_wp2_with fail
        rw [rounds_succ]
        go_wp2_with fail
        go_ret
        exact ⟨by rw [HR.out, if_neg d3, if_neg d2, if_pos d1]; rfl, hb1⟩
      · have e1 : decide ((t1.size : Int) ≤ (t4.size : Int)) = false := by exact decide_eq_false (by omega)
        go_wp2_with fail
        rw [rounds_succ]
        go_wp2_with fail
        go_ret
        exact ⟨by rw [HR.out, if_neg d3, if_neg d2, if_neg d1]; rfl, hb1⟩
end Go.Proofs.YtmiboibadccceaaGreat
/- The walk of hypostyleref.TextBytes. -/
namespace Go.Proofs.YtmiboibadccceaaGreat
open Go.RowKit
set_option linter.unusedVariables false

/-- texts as they are -/
def plainB (l : List (List UInt8)) : List UInt8 := l.flatMap fun x => V.enc x.length ++ x
def txB (way : Nat) (l : List (List UInt8)) : List UInt8 :=
  if way = 5 then [5] ++ plainB l
  else if way = 6 then [6] ++ V.enc (T.bk l).length ++ B.le (B.sz (l.length * bw (T.bk l).length)) (B.pk (bw (T.bk l).length) (l.map (T.plc (T.bk l)))) ++ F.fb [] (T.bk l)
  else [7] ++ F.fb [] l
theorem plainB_snoc (l : List (List UInt8)) (j : Nat) (h : j < l.length) : plainB (l.take (j + 1)) = plainB (l.take j) ++ (V.enc (l.getD j []).length ++ l.getD j []) := by
  unfold plainB
  rw [ttake_succ l j h, List.flatMap_append]
  simp
theorem plainB_len (l : List (List UInt8)) (hx : ∀ x ∈ l, x.length ≤ 16) : (plainB l).length ≤ 25 * l.length := by
  unfold plainB
  induction l with
  | nil => simp
  | cons x t ih =>
    have h1 := hx x (by simp)
    have h2 := ih (fun y hy => hx y (by simp [hy]))
    have h3 := V.sz_le x.length
    rw [List.flatMap_cons, List.length_append, List.length_append, V.enc_length, List.length_cons]
    omega
theorem bw_le (n : Nat) (h : n ≤ 64) : bw n ≤ 64 := by
  unfold bw
  by_cases h1 : n ≤ 1
  · rw [if_pos h1]; omega
  · rw [if_neg h1]; exact (B.bl_le _ 64).2 (by omega)
theorem bw_fit {x n : Nat} (h : x < n) : x < 2 ^ bw n := by
  unfold bw
  by_cases h1 : n ≤ 1
  · rw [if_pos h1]
    have : x = 0 := by omega
    subst this; decide
  · rw [if_neg h1]
    have := (B.bl_le (n - 1) (B.bl (n - 1))).1 (Nat.le_refl _)
    omega

theorem bk_fit {l : List (List UInt8)} (h : fitR l = 0) : fitR (T.bk l) = 0 := by
  obtain ⟨h1, h2⟩ := fit_zero h
  have hl := bk_length l
  exact fit_of (by omega) fun x hx => h2 x ((T.bk_mem l x).1 hx)

set_option maxHeartbeats 4000000 in
set_option maxRecDepth 100000 in
theorem textBytes5_any (a : Option Addr) (c : Nat) (l : List (List UInt8)) (w : World) (hf : fitR l = 0) (hu : Txts w w.heap.size a l) :
    Calls Tryz.prog 21 #[.slice a l.length c, .int .i64 5] w (TextPost (txB 5 l) w) := by
  obtain ⟨hl, hx⟩ := fit_zero hf
  have HO1 := Lib.hid (show ∀ W, Calls Tryz.prog 40 #[.int .i64 5] W (TextPost [5] W) from fun W => one_any 5 W (by omega))
  have HU := Lib.hid hu
  have HS := Lib.hid (fun j (h : j < l.length) => show str ([5] ++ plainB (l.take (j + 1))) = str ([5] ++ plainB (l.take j)) ++ (str (V.enc (l.getD j []).length) ++ str (l.getD j [])) by rw [plainB_snoc l j h, text_cat, text_cat, List.append_assoc])
  have HL := Lib.hid (fun j => show (str ([5] ++ plainB (l.take j))).size ≤ 10000 by
    rw [str_size, List.length_append]
    have := plainB_len (l.take j) (fun x hx' => hx x (List.mem_of_mem_take hx'))
    rw [List.length_take] at this
    simp only [List.length_cons, List.length_nil]; omega)
  have HXL := Lib.hid (fun j (h : j < l.length) => hx _ (tgetD_mem l j h))
  have HA := Lib.hid (show str ([5] ++ plainB (l.take l.length)) = str (txB 5 l) by rw [List.take_length]; rfl)
  have h0 : str ([5] ++ plainB (l.take 0)) = str [5] := rfl
  unfold TextPost at HO1 ⊢
  rw [← h0] at HO1
  clear hu hx hf h0
  generalize str (txB 5 l) = R at *
  go_enter Tryz.func21, Tryz.ntmps21
  go_wp2_with fail
  refine (HO1.out _).mono ?_
  rintro e w1 ⟨rfl, hb1⟩
  go_wp2_with fail
  go_loopw [5, 6] (fun v i wr => ∃ j : Nat, j ≤ l.length ∧ i = .int .i64 j ∧ v = .string (str ([5] ++ plainB (l.take j))) ∧ Below w.heap.size w wr) (fun _ i _ => l.length - (intOf i).toNat)
  case atStart => exact ⟨0, by omega, rfl, rfl, hb1⟩
  case round =>
    clear hb1
    obtain ⟨j, hj, rfl, rfl, hbw⟩ := hrel
    by_cases hlt : j < l.length
    · obtain ⟨b, off, rfl, hb, hcc⟩ := HU.out (fun e => by rw [e] at hlt; simp at hlt)
      have k0 := (hbw.cell (p := ⟨b, off + j, none⟩) hb).trans (hcc j hlt)
      have hbl : b < wr.heap.size := Nat.lt_of_lt_of_le hb hbw.size
      have HSJ := Lib.hid (HS.out j hlt)
      have hlj := HL.out j
      have hxl := HXL.out j hlt
      have hjI : (j : Int) < (l.length : Int) := by omega
      have hj0 : (0 : Int) ≤ (j : Int) := by omega
      generalize str ([5] ++ plainB (l.take j)) = acc at *
      generalize l.getD j [] = x at *
      have hV := fun W => vbytes_any x.length W (by omega)
      have hts : (str (V.enc x.length)).size ≤ 9 := by rw [str_size, V.enc_length]; exact V.sz_le _
      have hXs := str_size x
      unfold TextPost at hV
      generalize str (V.enc x.length) = t1 at *
      obtain ⟨X, hX⟩ : ∃ X, X = str x := ⟨_, rfl⟩
      rw [← hX] at hXs k0 HSJ
      rw [← hXs] at hV
      have f0 : ∀ p : WB wr, p.w.cell? ⟨b, off + j, none⟩ = some (.string X) := fun p => p.cell hbl k0
      have HV := Lib.hid hV
      have hw3 : IntKind.u64.wrap (X.size : Int) = (X.size : Int) := by rw [IntKind.wrap_u64]; omega
      have c1 : ¬ 9223372036854775807 < t1.size + X.size := by omega
      have c2 : ¬ 9223372036854775807 < acc.size + (t1.size + X.size) := by omega
      clear k0 hcc hX hXs hV hts hlj hxl hbl
      go_wp2_with fail
      refine wp_region_wbh (by kernel_rfl) (by kernel_rfl) ?_
      iterate 15 (refine wq_step (fun K hK => ?_); go_simp; first | (refine hK _ ?_; clear hK K) | (apply Exists.intro; refine ⟨fun _ => ?_, hK _ ?_⟩; (go_at_call 51; exact calls_wb (HV.out _)); clear hK K))
      refine wq_nil ?_
      rintro _ ⟨p, rfl⟩
      have hbp := below_then hbw p.below
      clear f0
      generalize p.w = W4 at *
      clear p
      go_wp2_with fail
      exact ⟨⟨j + 1, by omega, by go_num, by rw [HSJ.out], hbp⟩, by simp [intOf]; omega⟩
    · obtain rfl : j = l.length := by omega
      have HAA := Lib.hid HA.out
      go_wp2_with fail
      go_ret
      exact ⟨by rw [← HAA.out]; rfl, hbw⟩

set_option maxHeartbeats 2000000 in
set_option maxRecDepth 100000 in
theorem textBytes7_any (a : Option Addr) (c : Nat) (l : List (List UInt8)) (w : World) (hf : fitR l = 0) (hu : Txts w w.heap.size a l) :
    Calls Tryz.prog 21 #[.slice a l.length c, .int .i64 7] w (TextPost (txB 7 l) w) := by
  obtain ⟨hl, hx⟩ := fit_zero hf
  have HO1 := Lib.hid (show ∀ W, Calls Tryz.prog 40 #[.int .i64 7] W (TextPost [7] W) from fun W => one_any 7 W (by omega))
  have HF := Lib.hid (fun W (hb : Below w.heap.size w W) => fbytes_any a c l W hf (hu.next hb))
  have HR := Lib.hid (show str (txB 7 l) = str [7] ++ str (F.fb [] l) by rw [text_cat]; rfl)
  have s1 := str_size [7]
  have s2 := str_size (F.fb [] l)
  have s3 := fb_bound l [] hx
  unfold TextPost at HO1 HF ⊢
  generalize str (txB 7 l) = R at *
  generalize str [7] = t1 at *
  generalize str (F.fb [] l) = t2 at *
  simp only [List.length_cons, List.length_nil] at s1
  have c1 : ¬ 9223372036854775807 < t1.size + t2.size := by omega
  clear s1 s2 s3 hx hu hf
  go_enter Tryz.func21, Tryz.ntmps21
  go_wp2_with fail
  refine (HO1.out _).mono ?_
  rintro e w1 ⟨rfl, hb1⟩
  go_wp2_with fail
  refine (HF.out _ hb1).mono ?_
  rintro e w2 ⟨rfl, hb2⟩
  go_wp2_with fail
  go_ret
  exact ⟨by rw [HR.out]; rfl, below_then hb1 hb2⟩

set_option maxHeartbeats 2000000 in
set_option maxRecDepth 100000 in
theorem textBytes6_any (a : Option Addr) (c : Nat) (l : List (List UInt8)) (w : World) (hf : fitR l = 0) (hu : Txts w w.heap.size a l) :
    Calls Tryz.prog 21 #[.slice a l.length c, .int .i64 6] w (TextPost (txB 6 l) w) := by
  obtain ⟨hl, hx⟩ := fit_zero hf
  have HO1 := Lib.hid (show ∀ W, Calls Tryz.prog 40 #[.int .i64 6] W (TextPost [6] W) from fun W => one_any 6 W (by omega))
  have HB := Lib.hid (rbook_any a c l w (by omega) (fun x h => by have := hx x h; unfold maxLen; omega) hu)
  have hbl := bk_length l
  have hbk : (T.bk l).length ≤ 64 := by omega
  have HV := Lib.hid (fun W => vbytes_any (T.bk l).length W (by omega))
  have HW := Lib.hid (fun W => bookWidth_any (T.bk l).length W hbk)
  have hcl : ∀ x ∈ l.map (T.plc (T.bk l)), x < (T.bk l).length := fun x h => by
    obtain ⟨y, hy, rfl⟩ := List.mem_map.1 h
    exact (code_lt hy).1
  have HP := Lib.hid (fun a2 c2 W (h : Nums W W.heap.size a2 (l.map (T.plc (T.bk l)))) => packed_any a2 c2 (l.map (T.plc (T.bk l))) (bw (T.bk l).length) W (by simpa using hl) (bw_le _ hbk) (fun x h => bw_fit (hcl x h)) (fun x h => by have := hcl x h; omega) h)
  rw [List.length_map] at HP
  have HF := Lib.hid (fun a3 c3 W (h : Txts W W.heap.size a3 (T.bk l)) => fbytes_any a3 c3 (T.bk l) W (bk_fit hf) h)
  have HR := Lib.hid (show str (txB 6 l) = str [6] ++ str (V.enc (T.bk l).length) ++ str (B.le (B.sz (l.length * bw (T.bk l).length)) (B.pk (bw (T.bk l).length) (l.map (T.plc (T.bk l))))) ++ str (F.fb [] (T.bk l)) by rw [text_cat, text_cat, text_cat]; rfl)
  have s1 := str_size [6]
  have s2 : (str (V.enc (T.bk l).length)).size ≤ 9 := by rw [str_size, V.enc_length]; exact V.sz_le _
  have s3 : (str (B.le (B.sz (l.length * bw (T.bk l).length)) (B.pk (bw (T.bk l).length) (l.map (T.plc (T.bk l)))))).size ≤ 1048576 := by
    rw [str_size, B.le_length]; unfold B.sz
    have := Nat.mul_le_mul hl (bw_le _ hbk)
    omega
  have s4 : (str (F.fb [] (T.bk l))).size ≤ 1048576 := by
    rw [str_size]
    have := fb_bound (T.bk l) [] (fit_zero (bk_fit hf)).2
    omega
  unfold TextPost at HO1 HV HP HF ⊢
  unfold BookOfPost at HB
  generalize str (txB 6 l) = R at *
  generalize l.map (T.plc (T.bk l)) = cs at *
  generalize T.bk l = bk at *
  generalize bw bk.length = wd at *
  generalize str [6] = t1 at *
  generalize str (V.enc bk.length) = t2 at *
  generalize str (B.le (B.sz (l.length * wd)) (B.pk wd cs)) = t3 at *
  generalize str (F.fb [] bk) = t4 at *
  simp only [List.length_cons, List.length_nil] at s1
  have c1 : ¬ 9223372036854775807 < t1.size + t2.size := by omega
  have c2 : ¬ 9223372036854775807 < t1.size + t2.size + t3.size := by omega
  have c3 : ¬ 9223372036854775807 < t1.size + t2.size + t3.size + t4.size := by omega
  have hw3 : IntKind.u64.wrap (bk.length : Int) = (bk.length : Int) := by rw [IntKind.wrap_u64]; omega
  clear s1 s2 s3 s4 hx hu hf hcl
  go_enter Tryz.func21, Tryz.ntmps21
  go_wp2_with fail
  refine (HB.out).mono ?_
  rintro e w1 ⟨ab, cb, ac, cc, rfl, hT, hN, hb1⟩
  go_wp2_with fail
  refine (HO1.out _).mono ?_
  rintro e w2 ⟨rfl, hb2⟩
  go_wp2_with fail
  refine (HV.out _).mono ?_
  rintro e w3 ⟨rfl, hb3⟩
  go_wp2_with fail
  refine (HW.out _).mono ?_
  rintro e w4 ⟨rfl, rfl⟩
  have r3 := below_then hb2 hb3
  go_wp2_with fail
  refine (HP.out _ _ _ (hN.next r3)).mono ?_
  rintro e w5 ⟨rfl, hb5⟩
  have r5 := below_then r3 hb5
  go_wp2_with fail
  refine (HF.out _ _ _ (hT.next r5)).mono ?_
  rintro e w6 ⟨rfl, hb6⟩
  go_wp2_with fail
  go_ret
  exact ⟨by rw [HR.out]; rfl, below_then (below_then hb1 r5) hb6⟩
end Go.Proofs.YtmiboibadccceaaGreat
/- The walk of hypostyleref.BestTextBytes. -/
namespace Go.Proofs.YtmiboibadccceaaGreat
open Go.RowKit
set_option linter.unusedVariables false

def bestTW (l : List (List UInt8)) : List UInt8 := bstep (txB 5 l) (bstep (txB 6 l) (txB 7 l))

set_option maxHeartbeats 2000000 in
set_option maxRecDepth 100000 in
theorem bestTextBytes_any (a : Option Addr) (c : Nat) (l : List (List UInt8)) (w : World) (hf : fitR l = 0) (hu : Txts w w.heap.size a l) :
    Calls Tryz.prog 20 #[.slice a l.length c] w (TextPost (bestTW l) w) := by
  have H4 := Lib.hid (fun W (hb : Below w.heap.size w W) => textBytes7_any a c l W hf (hu.next hb))
  have H3 := Lib.hid (fun W (hb : Below w.heap.size w W) => textBytes6_any a c l W hf (hu.next hb))
  have H2 := Lib.hid (fun W (hb : Below w.heap.size w W) => textBytes5_any a c l W hf (hu.next hb))
  have hR : str (bestTW l) = _ := bstep_str (txB 5 l) (bstep (txB 6 l) (txB 7 l))
  rw [bstep_str (txB 6 l)] at hR
  have HR := Lib.hid hR
  unfold TextPost at H4 H3 H2 ⊢
  generalize str (bestTW l) = R at *
  generalize str (txB 7 l) = t4 at *
  generalize str (txB 6 l) = t3 at *
  generalize str (txB 5 l) = t2 at *
  clear hR hu hf
  go_enter Tryz.func20, Tryz.ntmps20
  go_wp2_with fail
  refine (H4.out _ (Below.refl _ _)).mono ?_
  rintro e w4 ⟨rfl, hb4⟩
  go_wp2_with fail
  refine wp_loop_rounds 3 ?_
  rw [rounds_succ]
  go_wp2_with fail
  refine (H3.out _ hb4).mono ?_
  rintro e w3 ⟨rfl, hc3⟩
  have hb3 := below_then hb4 hc3
  by_cases d3 : t3.size ≤ t4.size
  · have e3 : decide ((t3.size : Int) ≤ (t4.size : Int)) = true := by exact decide_eq_true (by omega)
    skip
    go_wp2_with fail
    rw [rounds_succ]
    go_wp2_with fail
    refine (H2.out _ hb3).mono ?_
    rintro e w2 ⟨rfl, hc2⟩
    have hb2 := below_then hb3 hc2
    by_cases d2 : t2.size ≤ t3.size
    · have e2 : decide ((t2.size : Int) ≤ (t3.size : Int)) = true := by exact decide_eq_true (by omega)
      go_wp2_with fail
      rw [rounds_succ]
      go_wp2_with fail
      go_ret
      exact ⟨by rw [HR.out, if_pos d3, if_pos d2]; rfl, hb2⟩
    · have e2 : decide ((t2.size : Int) ≤ (t3.size : Int)) = false := by exact decide_eq_false (by omega)
      go_wp2_with fail
      rw [rounds_succ]
      go_wp2_with fail
      go_ret
      exact ⟨by rw [HR.out, if_pos d3, if_neg d2]; rfl, hb2⟩
  · have e3 : decide ((t3.size : Int) ≤ (t4.size : Int)) = false := by exact decide_eq_false (by omega)
    skip
    go_wp2_with fail
    rw [rounds_succ]
    go_wp2_with fail
    refine (H2.out _ hb3).mono ?_
    rintro e w2 ⟨rfl, hc2⟩
    have hb2 := below_then hb3 hc2
    by_cases d2 : t2.size ≤ t4.size
    · have e2 : decide ((t2.size : Int) ≤ (t4.size : Int)) = true := by exact decide_eq_true (by omega)
      go_wp2_with fail
      rw [rounds_succ]
      go_wp2_with fail
      go_ret
      exact ⟨by rw [HR.out, if_neg d3, if_pos d2]; rfl, hb2⟩
    · have e2 : decide ((t2.size : Int) ≤ (t4.size : Int)) = false := by exact decide_eq_false (by omega)
      go_wp2_with fail
      rw [rounds_succ]
      go_wp2_with fail
      go_ret
      exact ⟨by rw [HR.out, if_neg d3, if_neg d2]; rfl, hb2⟩
end Go.Proofs.YtmiboibadccceaaGreat
/- For the walk of hypostyleref.plainOf: what it reads (plR), and what is joined to what came before (plG). The walk itself is to do. -/
namespace Go.Proofs.YtmiboibadccceaaGreat
open Go.RowKit
set_option linter.unusedVariables false

/-- so many texts as they are, of all of a text -/
def plR : Nat → List UInt8 → List (List UInt8) × Nat
  | 0, s => if s = [] then ([], 0) else ([], 1)
  | m + 1, s =>
    if (V.rd s).2.2 ≠ 0 then ([], (V.rd s).2.2)
    else if 16 < (V.rd s).1 then ([], 2)
    else if s.length < (V.rd s).2.1 + (V.rd s).1 then ([], 5)
    else if (plR m (s.drop ((V.rd s).2.1 + (V.rd s).1))).2 ≠ 0 then ([], (plR m (s.drop ((V.rd s).2.1 + (V.rd s).1))).2)
    else ((s.drop (V.rd s).2.1).take (V.rd s).1 :: (plR m (s.drop ((V.rd s).2.1 + (V.rd s).1))).1, 0)
def plG (acc : List (List UInt8)) (q : List (List UInt8) × Nat) : List (List UInt8) × Nat := if q.2 ≠ 0 then ([], q.2) else (acc ++ q.1, 0)
theorem plG_bad {acc : List (List UInt8)} {m n k e : Nat} {s : List UInt8} (h : V.rd s = (n, k, e)) (he : e ≠ 0) : plG acc (plR (m + 1) s) = ([], e) := by
  unfold plR; rw [h]; simp [plG, he]
theorem plG_many {acc : List (List UInt8)} {m n k : Nat} {s : List UInt8} (h : V.rd s = (n, k, 0)) (hn : 16 < n) : plG acc (plR (m + 1) s) = ([], 2) := by
  unfold plR; rw [h]; simp [plG, hn]
theorem plG_short {acc : List (List UInt8)} {m n k : Nat} {s : List UInt8} (h : V.rd s = (n, k, 0)) (hn : ¬ 16 < n) (hs : s.length < k + n) : plG acc (plR (m + 1) s) = ([], 5) := by
  unfold plR; rw [h]; simp [plG, hn, hs]
theorem plG_next {acc : List (List UInt8)} {m n k : Nat} {s : List UInt8} (h : V.rd s = (n, k, 0)) (hn : ¬ 16 < n) (hs : ¬ s.length < k + n) : plG acc (plR (m + 1) s) = plG (acc ++ [(s.drop k).take n]) (plR m (s.drop (k + n))) := by
  rw [plR, h]
  simp only [ne_eq, not_true_eq_false, if_false, if_neg hn, if_neg hs]
  unfold plG
  by_cases hq : (plR m (s.drop (k + n))).2 = 0
  · simp [hq]
  · simp [hq]
theorem str_drop (s : List UInt8) (k : Nat) : (str s).extract k (str s).size = str (s.drop k) := by
  apply ByteArray.ext; apply Array.toList_inj.mp
  rw [show ((str s).extract k (str s).size).data.toList = (str s).data.toList.drop k from cut_data _ k]; rfl
theorem str_cut (s : List UInt8) (k n : Nat) : (str s).extract k (k + n) = str ((s.drop k).take n) := by
  apply ByteArray.ext; apply Array.toList_inj.mp
  simp [str, ByteArray.data_extract, List.take_drop]

theorem plR_plG (many : Nat) (s : List UInt8) : plR many s = plG [] (plR many s) := by
  unfold plG
  by_cases h : (plR many s).2 ≠ 0
  · rw [if_pos h]
    have e : (plR many s).1 = [] := by
      cases many with
      | zero => unfold plR at h ⊢; by_cases hq : s = [] <;> simp [hq] at h ⊢
      | succ m =>
        unfold plR at h ⊢
        by_cases h1 : (V.rd s).2.2 ≠ 0
        · rw [if_pos h1]
        rw [if_neg h1] at h ⊢
        by_cases h2 : 16 < (V.rd s).1
        · rw [if_pos h2]
        rw [if_neg h2] at h ⊢
        by_cases h3 : s.length < (V.rd s).2.1 + (V.rd s).1
        · rw [if_pos h3]
        rw [if_neg h3] at h ⊢
        by_cases h4 : (plR m (s.drop ((V.rd s).2.1 + (V.rd s).1))).2 ≠ 0
        · rw [if_pos h4]
        · rw [if_neg h4] at h; exact absurd rfl h
    exact Prod.ext e rfl
  · rw [if_neg h]; exact Prod.ext (by simp) (Classical.not_not.1 h)

def atR (v : Value) : Nat := match v with | .slice _ k _ => k | _ => 0
set_option maxHeartbeats 2000000 in
set_option maxRecDepth 100000 in
theorem plainOf_any (s : List UInt8) (n : Nat) (w : World) (hs : s.length ≤ maxLen) (hn : n ≤ 64) :
    Calls Tryz.prog 62 #[.string (str s), .int .i64 (n : Int)] w (TextsPost (plR n s) w) := by
  unfold maxLen at hs
  have H0 := Lib.hid (show plR n s = plG [] (plR (n - ([] : List (List UInt8)).length) s) from plR_plG n s)
  obtain ⟨R, hR⟩ : ∃ R, R = plR n s := ⟨_, rfl⟩
  rw [← hR] at H0 ⊢
  clear hR
  go_enter Tryz.func62, Tryz.ntmps62
  go_wp2_with fail
  go_loopw [0, 6, 7, 8, 9] (fun t v _ _ _ wr => ∃ (acc : List (List UInt8)) (r : List UInt8), acc.length ≤ n ∧ t = .string (str r) ∧ r.length ≤ 9223372036854775807 ∧ TRow w.heap.size acc v wr ∧ Below w.heap.size w wr ∧ Hid (R = plG acc (plR (n - acc.length) r))) (fun _ v _ _ _ _ => n - atR v)
  case atStart => exact ⟨[], s, by simp, rfl, by omega, tnilRow _ _, Below.refl _ _, H0⟩
  case round =>
    obtain ⟨acc, r, hj, rfl, hr, hrw, hbw, HJ⟩ := hrel
    obtain ⟨a0, c0, rfl, htx, _, _⟩ := tRow_txts hrw
    obtain ⟨j, hj2⟩ : ∃ j, j = acc.length := ⟨_, rfl⟩
    rw [← hj2] at hj HJ hrw ⊢
    have HJ2 := Lib.hid hj2
    clear hj2
    by_cases hlt : j < n
    · have hjI : (j : Int) < (n : Int) := by omega
      have HJ3 := Lib.hid (show R = plG acc (plR (n - (j + 1) + 1) r) by rw [show n - (j + 1) + 1 = n - j by omega]; exact HJ.out)
      have HRW := Lib.hid hrw
      have hv1 := frvof_any (str r) wr (by rw [str_size]; unfold maxLen; omega)
      rw [str_data] at hv1
      unfold ReadPost at hv1
      have hsr := str_size r
      have hb1 := V.rd_bad r
      obtain ⟨x, k, e, he⟩ : ∃ x k e, V.rd r = (x, k, e) := ⟨_, _, _, rfl⟩
      rw [he] at hv1 hb1
      simp only at hv1
      have HV1 := Lib.hid hv1
      clear hv1 hrw htx HJ
      by_cases h0 : e = 0
      · subst h0
        obtain ⟨hk1, hkl, _, hx, hk9, _⟩ := V.rd_ok _ _ _ he
        by_cases h2 : 16 < x
        · have HRE := Lib.hid (show R = ([], 2) by rw [HJ3.out]; exact plG_many he h2)
          have g3 : decide (16 < x) = true := decide_eq_true h2
          have g3' : decide ((16 : Int) < (x : Int)) = true := decide_eq_true (by omega)
          generalize str r = S at *
          clear HJ3 hsr hb1 he h2
          go_wp2_with fail
          refine (HV1.out).mono ?_
          rintro e2 w1 ⟨rfl, hbl⟩
          go_wp2_with fail
          go_ret2
          rw [HRE.out]
          exact TextsPost.none _ (below_then hbw hbl)
        have g3 : decide (16 < x) = false := decide_eq_false h2
        have g3' : decide ((16 : Int) < (x : Int)) = false := decide_eq_false (by omega)
        have hwx : IntKind.i64.wrap (x : Int) = (x : Int) := by rw [IntKind.wrap_i64]; omega
        have hwk : IntKind.i64.wrap ((k : Int) + (x : Int)) = (k : Int) + (x : Int) := by rw [IntKind.wrap_i64]; omega
        by_cases h5 : r.length < k + x
        · have HRE := Lib.hid (show R = ([], 5) by rw [HJ3.out]; exact plG_short he h2 h5)
          have g6 : decide ((str r).size < k + x) = true := decide_eq_true (by omega)
          have g6' : decide (((str r).size : Int) < (k : Int) + (x : Int)) = true := decide_eq_true (by omega)
          generalize str r = S at *
          clear HJ3 hsr hb1 he h2 h5
          go_wp2_with fail
          refine (HV1.out).mono ?_
          rintro e2 w1 ⟨rfl, hbl⟩
          go_wp2_with fail
          go_ret2
          rw [HRE.out]
          exact TextsPost.none _ (below_then hbw hbl)
        have g6 : decide ((str r).size < k + x) = false := decide_eq_false (by omega)
        have g6' : decide (((str r).size : Int) < (k : Int) + (x : Int)) = false := decide_eq_false (by omega)
        have HRN := Lib.hid (show R = plG (acc ++ [(r.drop k).take x]) (plR (n - (j + 1)) (r.drop (k + x))) by rw [HJ3.out]; exact plG_next he h2 h5)
        have HXT := Lib.hid (show (str r).extract (k + x) (str r).size = str (r.drop (k + x)) from str_drop r _)
        have HXC := Lib.hid (show (str r).extract k (k + x) = str ((r.drop k).take x) from str_cut r k x)
        have hdl : (r.drop (k + x)).length ≤ 9223372036854775807 := by rw [List.length_drop]; omega
        have hkx : k + x ≤ (str r).size := by omega
        have hkxI : (k : Int) + (x : Int) ≤ ((str r).size : Int) := by omega
        have hkxn : ((k : Int) + (x : Int)).toNat = k + x := by omega
        have hkx0 : (0 : Int) ≤ (k : Int) + (x : Int) := by omega
        have hkx1 : (k : Int) ≤ (k : Int) + (x : Int) := by omega
        have hlb : (acc.length + 1) * 16 ≤ 140737488355328 := by have := HJ2.out; omega
        generalize (r.drop k).take x = t at *
        generalize r.drop (k + x) = q at *
        generalize str r = S at *
        clear HJ3 hsr hb1 he h2 h5
        go_wp2_with fail
        refine (HV1.out).mono ?_
        rintro e2 w1 ⟨rfl, hbl⟩
        have hrw2 := (HRW.out).below hbl
        have hbw2 := below_then hbw hbl
        have HROW := Lib.hid hrw2
        clear hrw2
        have hb5 : w.heap.size ≤ (w1.alloc (.cells #[.string (S.extract k (k + x))] 9)).heap.size := by have := hbw2.size; simp; omega
        go_wp2_with (at_builtin; refine wpList_append_onet rfl (.tmp 32) (.tmp 40) rfl w.heap.size _ acc rfl (HROW.out.alloc_ _) w1.heap.size t rfl (by rw [← HXC.out]; exact World.cell?_alloc_new _ _ _ _) hlb hb5 ?_)
        intro v' w5 hown5 hb5w
        have hbw5 : Below w.heap.size w w5 := (hbw2.alloc hbw2.size _).trans hb5w
        have HL2 := Lib.hid (show (acc ++ [t]).length = j + 1 by have h2 := HJ2.out; rw [h2]; simp)
        have HV := Lib.hid (show ∃ a c, v' = .slice a (j + 1) c by obtain ⟨a', c', e', _⟩ := tRow_txts hown5; exact ⟨a', c', by rw [e', HL2.out]⟩)
        go_wp2_with fail
        refine ⟨⟨acc ++ [t], q, by rw [HL2.out]; omega, by rw [HXT.out], hdl, hown5, hbw5, Lib.hid (by rw [HL2.out]; exact HRN.out)⟩, ?_⟩
        obtain ⟨a', c', e'⟩ := HV.out
        rw [e']
        show n - (j + 1) < n - j
        omega
      · have g3 : ((e : Int) != 0) = true := by rw [bne_iff_ne]; omega
        have HRE := Lib.hid (show R = ([], e) by rw [HJ3.out]; exact plG_bad he h0)
        generalize str r = S at *
        clear HJ3 hsr hb1 he
        go_wp2_with fail
        refine (HV1.out).mono ?_
        rintro e2 w1 ⟨rfl, hbl⟩
        go_wp2_with fail
        go_ret2
        rw [HRE.out]
        exact TextsPost.none _ (below_then hbw hbl)
    · obtain rfl : j = n := by omega
      rw [Nat.sub_self] at HJ
      have hsr := str_size r
      by_cases hr0 : r = []
      · subst hr0
        have HRN := Lib.hid (show R = (acc, 0) by rw [HJ.out]; simp [plR, plG])
        have hne : decide (0 < (str []).size) = false := by rw [str_size]; rfl
        have hne2 : decide ((0 : Int) < ((str []).size : Int)) = false := by rw [str_size]; rfl
        clear HJ hrw hsr
        go_wp2_with fail
        go_ret2
        rw [HRN.out]
        exact ⟨a0, c0, by simp only; rw [← HJ2.out]; rfl, htx, hbw⟩
      · have HRN := Lib.hid (show R = ([], 1) by rw [HJ.out]; simp [plR, plG, hr0])
        have hpos := List.length_pos_iff.2 hr0
        have hne : decide (0 < (str r).size) = true := decide_eq_true (by omega)
        have hne2 : decide ((0 : Int) < ((str r).size : Int)) = true := decide_eq_true (by omega)
        generalize str r = S at *
        clear HJ hrw
        go_wp2_with fail
        go_ret2
        rw [HRN.out]
        exact TextsPost.none 1 hbw
end Go.Proofs.YtmiboibadccceaaGreat
/- The walk of hypostyleref.BookTexts. -/
namespace Go.Proofs.YtmiboibadccceaaGreat
open Go.RowKit
set_option linter.unusedVariables false

/-- so many texts, by the book that a text begins with -/
def btR (m : Nat) (s : List UInt8) : List (List UInt8) × Nat :=
  if (V.rd s).2.2 ≠ 0 then ([], (V.rd s).2.2)
  else if 64 < (V.rd s).1 then ([], 2)
  else if s.length < (V.rd s).2.1 + B.sz (m * bw (V.rd s).1) then ([], 5)
  else if (unpR ((s.drop (V.rd s).2.1).take (B.sz (m * bw (V.rd s).1))) m (bw (V.rd s).1 : Nat)).2 ≠ 0 then ([], (unpR ((s.drop (V.rd s).2.1).take (B.sz (m * bw (V.rd s).1))) m (bw (V.rd s).1 : Nat)).2)
  else if (freadR (s.drop ((V.rd s).2.1 + B.sz (m * bw (V.rd s).1))) (V.rd s).1).2 ≠ 0 then ([], (freadR (s.drop ((V.rd s).2.1 + B.sz (m * bw (V.rd s).1))) (V.rd s).1).2)
  else textsR (freadR (s.drop ((V.rd s).2.1 + B.sz (m * bw (V.rd s).1))) (V.rd s).1).1 (unpR ((s.drop (V.rd s).2.1).take (B.sz (m * bw (V.rd s).1))) m (bw (V.rd s).1 : Nat)).1
theorem bt_e1 {m n k e : Nat} {s : List UInt8} (h : V.rd s = (n, k, e)) (he : e ≠ 0) : btR m s = ([], e) := by unfold btR; rw [h]; simp [he]
theorem bt_e2 {m n k : Nat} {s : List UInt8} (h : V.rd s = (n, k, 0)) (hn : 64 < n) : btR m s = ([], 2) := by unfold btR; rw [h]; simp [hn]
theorem bt_e3 {m n k q : Nat} {s : List UInt8} (h : V.rd s = (n, k, 0)) (hn : ¬ 64 < n) (hq : B.sz (m * bw n) = q) (hs : s.length < k + q) : btR m s = ([], 5) := by
  subst hq; unfold btR; rw [h]; simp only [ne_eq, not_true_eq_false, if_false, if_neg hn, if_pos hs]
theorem bt_e4 {m n k q e : Nat} {s : List UInt8} {u : List Nat} (h : V.rd s = (n, k, 0)) (hn : ¬ 64 < n) (hq : B.sz (m * bw n) = q) (hs : ¬ s.length < k + q) (hu : unpR ((s.drop k).take q) m (bw n : Nat) = (u, e)) (he : e ≠ 0) : btR m s = ([], e) := by
  subst hq; unfold btR; rw [h]; simp only [ne_eq, not_true_eq_false, if_false, if_neg hn, if_neg hs, hu, if_pos he]
theorem bt_e5 {m n k q e : Nat} {s : List UInt8} {u : List Nat} {b : List (List UInt8)} (h : V.rd s = (n, k, 0)) (hn : ¬ 64 < n) (hq : B.sz (m * bw n) = q) (hs : ¬ s.length < k + q) (hu : unpR ((s.drop k).take q) m (bw n : Nat) = (u, 0)) (hf : freadR (s.drop (k + q)) n = (b, e)) (he : e ≠ 0) : btR m s = ([], e) := by
  subst hq; unfold btR; rw [h]; simp only [ne_eq, not_true_eq_false, if_false, if_neg hn, if_neg hs, hu, hf]; rw [if_pos he]
theorem bt_ok {m n k q : Nat} {s : List UInt8} {u : List Nat} {b : List (List UInt8)} (h : V.rd s = (n, k, 0)) (hn : ¬ 64 < n) (hq : B.sz (m * bw n) = q) (hs : ¬ s.length < k + q) (hu : unpR ((s.drop k).take q) m (bw n : Nat) = (u, 0)) (hf : freadR (s.drop (k + q)) n = (b, 0)) : btR m s = textsR b u := by
  subst hq; unfold btR; rw [h]; simp only [ne_eq, not_true_eq_false, if_false, if_neg hn, if_neg hs, hu, hf]

theorem unpR_facts {s : List UInt8} {m wd : Nat} {u : List Nat} {e : Nat} (h : unpR s m wd = (u, e)) (hw : wd ≤ 64) : (e ≠ 0 → u = []) ∧ (e = 0 → u.length = m ∧ ∀ x ∈ u, x < 18446744073709551616) := by
  unfold unpR at h
  by_cases hc : chkR s m wd = 0
  · rw [if_pos hc] at h
    obtain ⟨rfl, rfl⟩ := (Prod.mk.injEq _ _ _ _).mp h
    refine ⟨fun h => absurd rfl h, fun _ => ⟨B.dg_length _ _ _, fun x hx => ?_⟩⟩
    have h1 := B.dg_lt _ _ _ x hx
    have h2 : 2 ^ wd ≤ 2 ^ 64 := Nat.pow_le_pow_right (by omega) hw
    exact Nat.lt_of_lt_of_le h1 h2
  · rw [if_neg hc] at h
    obtain ⟨rfl, rfl⟩ := (Prod.mk.injEq _ _ _ _).mp h
    exact ⟨fun _ => rfl, fun h => absurd h hc⟩
theorem freadR_facts {s : List UInt8} {n e : Nat} {b : List (List UInt8)} (h : freadR s n = (b, e)) (hn : n ≤ 64) : (e ≠ 0 → b = []) ∧ (e = 0 → b.length = n ∧ ∀ x ∈ b, x.length ≤ 16) := by
  unfold freadR at h
  rw [if_neg (by omega), if_neg (by omega)] at h
  refine ⟨fun he => ?_, fun he => ?_⟩
  · have := F.fr_err (n : Int).toNat [] s (by rw [h]; exact he)
    rw [h] at this; exact this
  · subst he
    have := F.fr_ok _ _ _ _ h
    exact ⟨by rw [this.2.1]; simp, this.2.2⟩

theorem row_nums {B n : Nat} {xs : List Nat} {a : Option Addr} {c : Nat} {w : World} (h : NumRow B xs (.slice a n c) w) : Nums w w.heap.size a xs := by
  obtain ⟨a', c', hv, hn⟩ := numRow_nums h
  obtain ⟨h1, h2, h3⟩ := (Value.slice.injEq _ _ _ _ _ _).mp hv
  subst h1; exact hn

set_option maxHeartbeats 4000000 in
set_option maxRecDepth 100000 in
theorem bookTexts_any (s : List UInt8) (m : Nat) (w : World) (hs : s.length ≤ maxLen) (hm : m ≤ 64) :
    Calls Tryz.prog 63 #[.string (str s), .int .i64 (m : Int)] w (TextsPost (btR m s) w) := by
  have hv1 := frvof_any (str s) w (by rw [str_size]; exact hs)
  rw [str_data] at hv1
  unfold ReadPost at hv1
  have hb1 := V.rd_bad s
  have hsz := str_size s
  have hmx := hs
  unfold maxLen at hmx
  obtain ⟨x, k, e, he⟩ : ∃ x k e, V.rd s = (x, k, e) := ⟨_, _, _, rfl⟩
  rw [he] at hv1 hb1
  simp only at hv1
  have HV1 := Lib.hid hv1
  clear hv1
  by_cases h0 : e = 0
  · subst h0
    obtain ⟨hk1, hkl, _, hx, hk9, _⟩ := V.rd_ok _ _ _ he
    by_cases h2 : 64 < x
    · have HRE := Lib.hid (bt_e2 (m := m) he h2)
      have g3 : decide (64 < x) = true := decide_eq_true h2
      have g3' : decide ((64 : Int) < (x : Int)) = true := decide_eq_true (by omega)
      generalize str s = S at *
      clear hb1 he h2 hs hsz
      go_enter Tryz.func63, Tryz.ntmps63
      go_wp2_with fail
      refine (HV1.out).mono ?_
      rintro e2 w1 ⟨rfl, hbl⟩
      go_wp2_with fail
      go_ret2
      rw [HRE.out]
      exact TextsPost.none _ hbl
    have g3 : decide (64 < x) = false := decide_eq_false h2
    have g3' : decide ((64 : Int) < (x : Int)) = false := decide_eq_false (by omega)
    have hwx : IntKind.i64.wrap (x : Int) = (x : Int) := by rw [IntKind.wrap_i64]; omega
    have HBW := Lib.hid (fun W => bookWidth_any x W (by omega))
    have hwl := bw_le x (by omega)
    obtain ⟨q, hq⟩ : ∃ q, B.sz (m * bw x) = q := ⟨_, rfl⟩
    have HE3 := Lib.hid (bt_e3 (m := m) he h2 hq)
    have HE4 := Lib.hid (fun e u => bt_e4 (m := m) (e := e) (u := u) he h2 hq)
    have HE5 := Lib.hid (fun e u b => bt_e5 (m := m) (e := e) (u := u) (b := b) he h2 hq)
    have HOK := Lib.hid (fun u b => bt_ok (m := m) (u := u) (b := b) he h2 hq)
    obtain ⟨u, eu, hu⟩ : ∃ u eu, unpR ((s.drop k).take q) m (bw x : Nat) = (u, eu) := ⟨_, _, rfl⟩
    obtain ⟨b, eb, hb⟩ : ∃ b eb, freadR (s.drop (k + q)) x = (b, eb) := ⟨_, _, rfl⟩
    have hue := unpR_facts hu hwl
    have hbe := freadR_facts hb (by omega)
    have HUP := Lib.hid (fun W => unpackOo_any (str ((s.drop k).take q)) m (bw x : Nat) W (by rw [str_size, List.length_take, List.length_drop]; unfold maxLen; omega))
    rw [str_data, hu] at HUP
    have HFR := Lib.hid (fun W => fof_any (s.drop (k + q)) x W (by rw [List.length_drop]; unfold maxLen; omega))
    rw [hb] at HFR
    have HXT := Lib.hid (show (str s).extract (k + q) (str s).size = str (s.drop (k + q)) from str_drop s _)
    have HXC := Lib.hid (show (str s).extract k (k + q) = str ((s.drop k).take q) from str_cut s k q)
    rw [← HXC.out] at HUP
    rw [← HXT.out] at HFR
    unfold AllPostO at HUP
    unfold TextsPost at HFR
    have hP : m * bw x ≤ 64 * 64 := Nat.mul_le_mul hm hwl
    have hPI : ((m : Int) * ((bw x : Nat) : Int)) = ((m * bw x : Nat) : Int) := by simp
    unfold B.sz at hq
    rw [hu] at HE4 HE5 HOK
    rw [hb] at HE5 HOK
    clear hu hb HXT HXC
    generalize bw x = wd at *
    generalize m * wd = P at *
    have hwP : IntKind.i64.wrap (P : Int) = (P : Int) := by rw [IntKind.wrap_i64]; omega
    obtain ⟨q0, hq0⟩ : ∃ q0, q0 = P / 8 := ⟨_, rfl⟩
    have hq8 : (P : Int) / 8 = (q0 : Int) := by omega
    have hwq : IntKind.i64.wrap (q0 : Int) = (q0 : Int) := by rw [IntKind.wrap_i64]; omega
    have hwq1 : IntKind.i64.wrap ((q0 : Int) + 1) = ((q0 + 1 : Nat) : Int) := by rw [IntKind.wrap_i64]; omega
    have hwkq : IntKind.i64.wrap ((k : Int) + (q : Int)) = (k : Int) + (q : Int) := by rw [IntKind.wrap_i64]; omega
    have hkqn : ((k : Int) + (q : Int)).toNat = k + q := by omega
    have hkq0 : (0 : Int) ≤ (k : Int) + (q : Int) := by omega
    have hkq1 : (k : Int) ≤ (k : Int) + (q : Int) := by omega
    by_cases h5 : s.length < k + q
    · have HRE := Lib.hid (HE3.out h5)
      have g6 : decide (((str s).size : Int) < (k : Int) + (q : Int)) = true := decide_eq_true (by omega)
      have g6' : decide ((str s).size < k + q) = true := decide_eq_true (by omega)
      generalize str s = S at *
      clear HE3 HE4 HE5 HOK HUP HFR hue hbe hsz hs he hb1
      rcases (show (P % 8 = 0 ∧ q = q0) ∨ (¬ P % 8 = 0 ∧ q = q0 + 1) by omega) with ⟨h8, rfl⟩ | ⟨h8, rfl⟩
      · have g8 : decide ((0 : Int) < (P : Int) % 8) = false := decide_eq_false (by omega)
        clear hq hq0 h8
        go_enter Tryz.func63, Tryz.ntmps63
        go_wp2_with fail
        refine (HV1.out).mono ?_
        rintro e2 w1 ⟨rfl, hbl⟩
        go_wp2_with fail
        refine (HBW.out _).mono ?_
        rintro e3 w2 ⟨rfl, rfl⟩
        go_wp2_with fail
        go_ret2
        rw [HRE.out]
        exact TextsPost.none _ hbl
      · have g8 : decide ((0 : Int) < (P : Int) % 8) = true := decide_eq_true (by omega)
        clear hq hq0 h8
        generalize q0 + 1 = q at *
        go_enter Tryz.func63, Tryz.ntmps63
        go_wp2_with fail
        refine (HV1.out).mono ?_
        rintro e2 w1 ⟨rfl, hbl⟩
        go_wp2_with fail
        refine (HBW.out _).mono ?_
        rintro e3 w2 ⟨rfl, rfl⟩
        go_wp2_with fail
        go_ret2
        rw [HRE.out]
        exact TextsPost.none _ hbl
    have g6 : decide (((str s).size : Int) < (k : Int) + (q : Int)) = false := decide_eq_false (by omega)
    have g6' : decide ((str s).size < k + q) = false := decide_eq_false (by omega)
    have hkx : k + q ≤ (str s).size := by omega
    have hkxI : (k : Int) + (q : Int) ≤ ((str s).size : Int) := by omega
    by_cases hu0 : eu = 0
    · subst hu0
      have hbb : b.length ≤ 64 := by
        by_cases h : eb = 0
        · rw [(hbe.2 h).1]; omega
        · rw [hbe.1 h]; simp
      have HTX := Lib.hid (fun a c a2 c2 W => rtexts_any a c b a2 c2 u W (by unfold maxLen; omega) (by rw [(hue.2 rfl).1]; unfold maxLen; omega) (hue.2 rfl).2)
      unfold TextsPost at HTX
      by_cases hb0 : eb = 0
      · subst hb0
        have HRE := Lib.hid (HOK.out u b h5 rfl rfl)
        generalize str s = S at *
        clear HE3 HE4 HE5 HOK hue hbe hsz hs he hb1 h5
        rcases (show (P % 8 = 0 ∧ q = q0) ∨ (¬ P % 8 = 0 ∧ q = q0 + 1) by omega) with ⟨h8, rfl⟩ | ⟨h8, rfl⟩
        · have g8 : decide ((0 : Int) < (P : Int) % 8) = false := decide_eq_false (by omega)
          clear hq hq0 h8
          go_enter Tryz.func63, Tryz.ntmps63
          go_wp2_with fail
          refine (HV1.out).mono ?_
          rintro e2 w1 ⟨rfl, hbl⟩
          go_wp2_with fail
          refine (HBW.out _).mono ?_
          rintro e3 w2 ⟨rfl, rfl⟩
          go_wp2_with fail
          refine (HUP.out _).mono ?_
          rintro e4 w4 ⟨au, cu, rfl, hnr, hb4⟩
          have hnu := row_nums hnr
          have r4 := below_then hbl hb4
          go_wp2_with fail
          refine (HFR.out _).mono ?_
          rintro e5 w5 ⟨ab, cb, rfl, htx, hb5⟩
          have r5 := below_then r4 hb5
          go_wp2_with fail
          refine (HTX.out _ _ _ _ _ htx (hnu.next hb5)).mono ?_
          rintro e6 w6 ⟨at', ct, rfl, htt, hb6⟩
          go_wp2_with fail
          go_ret2
          rw [HRE.out]
          exact ⟨at', ct, rfl, htt, below_then r5 hb6⟩
        · have g8 : decide ((0 : Int) < (P : Int) % 8) = true := decide_eq_true (by omega)
          clear hq hq0 h8
          generalize q0 + 1 = q at *
          go_enter Tryz.func63, Tryz.ntmps63
          go_wp2_with fail
          refine (HV1.out).mono ?_
          rintro e2 w1 ⟨rfl, hbl⟩
          go_wp2_with fail
          refine (HBW.out _).mono ?_
          rintro e3 w2 ⟨rfl, rfl⟩
          go_wp2_with fail
          refine (HUP.out _).mono ?_
          rintro e4 w4 ⟨au, cu, rfl, hnr, hb4⟩
          have hnu := row_nums hnr
          have r4 := below_then hbl hb4
          go_wp2_with fail
          refine (HFR.out _).mono ?_
          rintro e5 w5 ⟨ab, cb, rfl, htx, hb5⟩
          have r5 := below_then r4 hb5
          go_wp2_with fail
          refine (HTX.out _ _ _ _ _ htx (hnu.next hb5)).mono ?_
          rintro e6 w6 ⟨at', ct, rfl, htt, hb6⟩
          go_wp2_with fail
          go_ret2
          rw [HRE.out]
          exact ⟨at', ct, rfl, htt, below_then r5 hb6⟩
      · have HRE := Lib.hid (HE5.out eb u b h5 rfl rfl hb0)
        have gb : ((eb : Int) != 0) = true := by rw [bne_iff_ne]; omega
        generalize str s = S at *
        clear HE3 HE4 HE5 HOK hue hbe hsz hs he hb1 h5 HTX
        rcases (show (P % 8 = 0 ∧ q = q0) ∨ (¬ P % 8 = 0 ∧ q = q0 + 1) by omega) with ⟨h8, rfl⟩ | ⟨h8, rfl⟩
        · have g8 : decide ((0 : Int) < (P : Int) % 8) = false := decide_eq_false (by omega)
          clear hq hq0 h8
          go_enter Tryz.func63, Tryz.ntmps63
          go_wp2_with fail
          refine (HV1.out).mono ?_
          rintro e2 w1 ⟨rfl, hbl⟩
          go_wp2_with fail
          refine (HBW.out _).mono ?_
          rintro e3 w2 ⟨rfl, rfl⟩
          go_wp2_with fail
          refine (HUP.out _).mono ?_
          rintro e4 w4 ⟨au, cu, rfl, hnr, hb4⟩
          have hnu := row_nums hnr
          have r4 := below_then hbl hb4
          go_wp2_with fail
          refine (HFR.out _).mono ?_
          rintro e5 w5 ⟨ab, cb, rfl, htx, hb5⟩
          have r5 := below_then r4 hb5
          go_wp2_with fail
          go_ret2
          rw [HRE.out]
          exact TextsPost.none _ r5
        · have g8 : decide ((0 : Int) < (P : Int) % 8) = true := decide_eq_true (by omega)
          clear hq hq0 h8
          generalize q0 + 1 = q at *
          go_enter Tryz.func63, Tryz.ntmps63
          go_wp2_with fail
          refine (HV1.out).mono ?_
          rintro e2 w1 ⟨rfl, hbl⟩
          go_wp2_with fail
          refine (HBW.out _).mono ?_
          rintro e3 w2 ⟨rfl, rfl⟩
          go_wp2_with fail
          refine (HUP.out _).mono ?_
          rintro e4 w4 ⟨au, cu, rfl, hnr, hb4⟩
          have hnu := row_nums hnr
          have r4 := below_then hbl hb4
          go_wp2_with fail
          refine (HFR.out _).mono ?_
          rintro e5 w5 ⟨ab, cb, rfl, htx, hb5⟩
          have r5 := below_then r4 hb5
          go_wp2_with fail
          go_ret2
          rw [HRE.out]
          exact TextsPost.none _ r5
    · have HRE := Lib.hid (HE4.out eu u h5 rfl hu0)
      have gu : ((eu : Int) != 0) = true := by rw [bne_iff_ne]; omega
      generalize str s = S at *
      clear HE3 HE4 HE5 HOK hue hbe hsz hs he hb1 h5 HFR
      rcases (show (P % 8 = 0 ∧ q = q0) ∨ (¬ P % 8 = 0 ∧ q = q0 + 1) by omega) with ⟨h8, rfl⟩ | ⟨h8, rfl⟩
      · have g8 : decide ((0 : Int) < (P : Int) % 8) = false := decide_eq_false (by omega)
        clear hq hq0 h8
        go_enter Tryz.func63, Tryz.ntmps63
        go_wp2_with fail
        refine (HV1.out).mono ?_
        rintro e2 w1 ⟨rfl, hbl⟩
        go_wp2_with fail
        refine (HBW.out _).mono ?_
        rintro e3 w2 ⟨rfl, rfl⟩
        go_wp2_with fail
        refine (HUP.out _).mono ?_
        rintro e4 w4 ⟨au, cu, rfl, hnr, hb4⟩
        have hnu := row_nums hnr
        have r4 := below_then hbl hb4
        go_wp2_with fail
        go_ret2
        rw [HRE.out]
        exact TextsPost.none _ r4
      · have g8 : decide ((0 : Int) < (P : Int) % 8) = true := decide_eq_true (by omega)
        clear hq hq0 h8
        generalize q0 + 1 = q at *
        go_enter Tryz.func63, Tryz.ntmps63
        go_wp2_with fail
        refine (HV1.out).mono ?_
        rintro e2 w1 ⟨rfl, hbl⟩
        go_wp2_with fail
        refine (HBW.out _).mono ?_
        rintro e3 w2 ⟨rfl, rfl⟩
        go_wp2_with fail
        refine (HUP.out _).mono ?_
        rintro e4 w4 ⟨au, cu, rfl, hnr, hb4⟩
        have hnu := row_nums hnr
        have r4 := below_then hbl hb4
        go_wp2_with fail
        go_ret2
        rw [HRE.out]
        exact TextsPost.none _ r4
  · have HRE := Lib.hid (bt_e1 (m := m) he h0)
    have g3 : ((e : Int) != 0) = true := by rw [bne_iff_ne]; omega
    generalize str s = S at *
    clear hsz hb1 he
    go_enter Tryz.func63, Tryz.ntmps63
    go_wp2_with fail
    refine (HV1.out).mono ?_
    rintro e2 w1 ⟨rfl, hbl⟩
    go_wp2_with fail
    go_ret2
    rw [HRE.out]
    exact TextsPost.none _ hbl
end Go.Proofs.YtmiboibadccceaaGreat
/- The walk of hypostyleref.TextListOf. -/
namespace Go.Proofs.YtmiboibadccceaaGreat
open Go.RowKit
set_option linter.unusedVariables false

/-- so many texts of a text -/
def tlR (s : List UInt8) (many : Int) : List (List UInt8) × Nat :=
  if many < 0 then ([], 3) else if 64 < many then ([], 2)
  else match s with
    | [] => ([], 5)
    | c :: t => if c.toNat = 5 then plR many.toNat t else if c.toNat = 6 then btR many.toNat t else if c.toNat = 7 then freadR t many else ([], 7)

theorem str_at0 (c : UInt8) (t : List UInt8) (h : 0 < (str (c :: t)).size) : (str (c :: t))[0] = c := rfl
theorem str_tail (c : UInt8) (t : List UInt8) : (str (c :: t)).extract 1 (str (c :: t)).size = str t := str_drop (c :: t) 1

set_option maxHeartbeats 2000000 in
set_option maxRecDepth 100000 in
theorem tlof_any (s : List UInt8) (many : Int) (w : World) (hs : s.length ≤ maxLen) :
    Calls Tryz.prog 25 #[.string (str s), .int .i64 many] w (TextsPost (tlR s many) w) := by
  unfold maxLen at hs
  by_cases h0 : many < 0
  · have HR := Lib.hid (show tlR s many = ([], 3) from if_pos h0)
    have g1 : decide (many < 0) = true := decide_eq_true h0
    go_enter Tryz.func25, Tryz.ntmps25
    go_wp2_with fail
    go_ret2
    rw [HR.out]; exact TextsPost.none 3 (Below.refl _ _)
  have g1 : decide (many < 0) = false := decide_eq_false h0
  by_cases h1 : 64 < many
  · have HR := Lib.hid (show tlR s many = ([], 2) by unfold tlR; rw [if_neg h0, if_pos h1])
    have g2 : decide (64 < many) = true := decide_eq_true h1
    go_enter Tryz.func25, Tryz.ntmps25
    go_wp2_with fail
    go_ret2
    rw [HR.out]; exact TextsPost.none 2 (Below.refl _ _)
  have g2 : decide (64 < many) = false := decide_eq_false h1
  obtain ⟨m, rfl⟩ : ∃ m : Nat, many = m := ⟨many.toNat, by omega⟩
  cases s with
  | nil =>
    have HR := Lib.hid (show tlR [] m = ([], 5) by unfold tlR; rw [if_neg h0, if_neg h1])
    have g3 : (((str []).size : Int) == 0) = true := by rw [str_size]; rfl
    generalize str [] = S at *
    go_enter Tryz.func25, Tryz.ntmps25
    go_wp2_with fail
    go_ret2
    rw [HR.out]; exact TextsPost.none 5 (Below.refl _ _)
  | cons c t =>
    have hE : tlR (c :: t) m = if c.toNat = 5 then plR m t else if c.toNat = 6 then btR m t else if c.toNat = 7 then freadR t m else ([], 7) := by
      unfold tlR; rw [if_neg h0, if_neg h1, Int.toNat_natCast]
    have hsz := str_size (c :: t)
    rw [List.length_cons] at hsz hs
    have hz : 0 < (str (c :: t)).size := by omega
    have hz1 : 1 ≤ (str (c :: t)).size := by omega
    have hz1I : (1 : Int) ≤ ((str (c :: t)).size : Int) := by omega
    have g3 : (((str (c :: t)).size : Int) == 0) = false := by rw [beq_eq_false_iff_ne]; omega
    have hc : (str (c :: t))[0].toNat = c.toNat := rfl
    have HX := Lib.hid (str_tail c t)
    have HPL := Lib.hid (fun W => plainOf_any t m W (by unfold maxLen; omega) (by omega))
    have HBT := Lib.hid (fun W => bookTexts_any t m W (by unfold maxLen; omega) (by omega))
    have HFR := Lib.hid (fun W => fof_any t m W (by unfold maxLen; omega))
    rw [← HX.out] at HPL HBT HFR
    unfold TextsPost at HPL HBT HFR
    by_cases h5 : c.toNat = 5
    · have HR := Lib.hid (show tlR (c :: t) m = plR m t by rw [hE, if_pos h5])
      have g5 : ((c.toNat : Int) == 5) = true := by rw [beq_iff_eq]; omega
      generalize str (c :: t) = S at *
      generalize c.toNat = n at *
      clear hE HBT HFR HX hsz
      go_enter Tryz.func25, Tryz.ntmps25
      go_wp2_with fail
      refine (HPL.out _).mono ?_
      rintro e w1 ⟨a, c, rfl, ht, hb⟩
      go_wp2_with fail
      go_ret2
      rw [HR.out]; exact ⟨a, c, rfl, ht, hb⟩
    have g5 : ((c.toNat : Int) == 5) = false := by rw [beq_eq_false_iff_ne]; omega
    by_cases h6 : c.toNat = 6
    · have HR := Lib.hid (show tlR (c :: t) m = btR m t by rw [hE, if_neg h5, if_pos h6])
      have g6 : ((c.toNat : Int) == 6) = true := by rw [beq_iff_eq]; omega
      generalize str (c :: t) = S at *
      generalize c.toNat = n at *
      clear hE HPL HFR HX hsz
      go_enter Tryz.func25, Tryz.ntmps25
      go_wp2_with fail
      refine (HBT.out _).mono ?_
      rintro e w1 ⟨a, c, rfl, ht, hb⟩
      go_wp2_with fail
      go_ret2
      rw [HR.out]; exact ⟨a, c, rfl, ht, hb⟩
    have g6 : ((c.toNat : Int) == 6) = false := by rw [beq_eq_false_iff_ne]; omega
    by_cases h7 : c.toNat = 7
    · have HR := Lib.hid (show tlR (c :: t) m = freadR t m by rw [hE, if_neg h5, if_neg h6, if_pos h7])
      have g7 : ((c.toNat : Int) == 7) = true := by rw [beq_iff_eq]; omega
      generalize str (c :: t) = S at *
      generalize c.toNat = n at *
      clear hE HPL HBT HX hsz
      go_enter Tryz.func25, Tryz.ntmps25
      go_wp2_with fail
      refine (HFR.out _).mono ?_
      rintro e w1 ⟨a, c, rfl, ht, hb⟩
      go_wp2_with fail
      go_ret2
      rw [HR.out]; exact ⟨a, c, rfl, ht, hb⟩
    have g7 : ((c.toNat : Int) == 7) = false := by rw [beq_eq_false_iff_ne]; omega
    have HR := Lib.hid (show tlR (c :: t) m = ([], 7) by rw [hE, if_neg h5, if_neg h6, if_neg h7])
    generalize str (c :: t) = S at *
    generalize c.toNat = n at *
    clear hE HPL HBT HFR HX hsz
    go_enter Tryz.func25, Tryz.ntmps25
    go_wp2_with fail
    go_ret2
    rw [HR.out]; exact TextsPost.none 7 (Below.refl _ _)
end Go.Proofs.YtmiboibadccceaaGreat
/- The walk of hypostyleref.NumbersOf. -/
namespace Go.Proofs.YtmiboibadccceaaGreat
open Go.RowKit
set_option linter.unusedVariables false

theorem first_lt (s : List UInt8) (left w : Nat) : ∀ x ∈ (H.first s left w).2.1.nums, x < 2 ^ w := by
  unfold H.first
  split
  · simp [H.Part.nums]
  unfold H.firstL
  split
  · simp [H.Part.nums]
  split
  · simp [H.Part.nums]
  unfold H.body
  split
  · simp [H.Part.nums]
  split
  · intro x hx
    simp only [H.Part.nums, List.mem_replicate] at hx
    rw [hx.2]
    simp only [B.dg, List.headD_cons]
    exact Nat.mod_lt _ (B.pos2 w)
  split
  · simp [H.Part.nums]
  · intro x hx
    exact B.dg_lt _ _ _ x (List.mem_of_mem_take hx)
theorem readF_lt (w : Nat) : ∀ (f : Nat) (s : List UInt8) (left : Nat), ∀ x ∈ (H.readF f s left w).1, x < 2 ^ w
  | 0, s, left => by simp [H.readF]
  | f + 1, s, left => by
    unfold H.readF
    split
    · simp
    split
    · simp
    unfold H.pre
    split
    · simp
    · intro x hx
      rcases List.mem_append.1 hx with h | h
      · exact first_lt _ _ _ x h
      · exact readF_lt w f _ _ x h
theorem hreadR_facts {s : List UInt8} {m wd : Nat} {u : List Nat} {e : Nat} (h : hreadR s m wd = (u, e)) : (e ≠ 0 → u = []) ∧ (e = 0 → u.length = m ∧ wd ≤ 64 ∧ ∀ x ∈ u, x < 18446744073709551616) := by
  unfold hreadR at h
  by_cases h1 : (wd : Int) < 0 ∨ 64 < (wd : Int) ∨ (m : Int) < 0
  · rw [if_pos h1] at h
    obtain ⟨rfl, rfl⟩ := (Prod.mk.injEq _ _ _ _).mp h
    exact ⟨fun _ => rfl, fun h => absurd h (by decide)⟩
  rw [if_neg h1] at h
  by_cases h2 : 64 < (m : Int)
  · rw [if_pos h2] at h
    obtain ⟨rfl, rfl⟩ := (Prod.mk.injEq _ _ _ _).mp h
    exact ⟨fun _ => rfl, fun h => absurd h (by decide)⟩
  rw [if_neg h2, Int.toNat_natCast, Int.toNat_natCast] at h
  refine ⟨fun he => ?_, fun he => ?_⟩
  · have := H.read_err s m wd (by rw [h]; exact he)
    rw [h] at this; exact this
  · subst he
    have h3 := H.read_length s m wd (by rw [h])
    rw [h] at h3
    refine ⟨h3, by omega, fun x hx => ?_⟩
    have h4 := readF_lt wd (m + 1) s m x (by unfold H.read at h; rw [h]; exact hx)
    have h5 : 2 ^ wd ≤ 2 ^ 64 := Nat.pow_le_pow_right (by omega) (by omega)
    exact Nat.lt_of_lt_of_le h4 h5
theorem unpR_facts2 {s : List UInt8} {m wd : Nat} {u : List Nat} {e : Nat} (h : unpR s m wd = (u, e)) : (e ≠ 0 → u = []) ∧ (e = 0 → u.length = m ∧ wd ≤ 64 ∧ ∀ x ∈ u, x < 18446744073709551616) := by
  by_cases hw : wd ≤ 64
  · have := unpR_facts h hw
    exact ⟨this.1, fun he => ⟨(this.2 he).1, hw, (this.2 he).2⟩⟩
  · unfold unpR chkR at h
    rw [if_pos (show (wd : Int) < 0 ∨ 64 < (wd : Int) ∨ (m : Int) < 0 by omega), if_neg (by decide)] at h
    obtain ⟨rfl, rfl⟩ := (Prod.mk.injEq _ _ _ _).mp h
    exact ⟨fun _ => rfl, fun h => absurd h (by decide)⟩

/-- by no width but theirs -/
def wchk (wd : Nat) (q : List Nat × Nat) : List Nat × Nat := if q.2 ≠ 0 then ([], q.2) else if B.wd q.1 ≠ wd then ([], 1) else (q.1, 0)
def nl2 (n : Nat) (many : Int) : List UInt8 → List Nat × Nat
  | [] => ([], 5)
  | d :: u => wchk d.toNat (if n = 2 then hreadR u many d.toNat else unpR u many d.toNat)
/-- so many numbers of a text -/
def nlR (s : List UInt8) (many : Int) : List Nat × Nat :=
  if many < 0 then ([], 3) else if 64 < many then ([], 2)
  else match s with
    | [] => ([], 5)
    | c :: t => if c.toNat < 1 ∨ 4 < c.toNat then ([], 7) else if c.toNat = 3 then dreadR t many else if c.toNat = 4 then P.read t many else nl2 c.toNat many t

set_option maxHeartbeats 4000000 in
set_option maxRecDepth 100000 in
theorem nlof_one (S T : ByteArray) (wd : Nat) (u : List UInt8) (m : Nat) (w : World) (hz : 0 < S.size) (hz1 : 1 ≤ S.size) (hz1I : (1 : Int) ≤ (S.size : Int)) (g3 : ((S.size : Int) == 0) = false) (hc : S[0].toNat = 1)
    (hX : S.extract 1 S.size = T) (hzT : 0 < T.size) (hz1T : 1 ≤ T.size) (hz1TI : (1 : Int) ≤ (T.size : Int)) (g9 : ((T.size : Int) == 0) = false) (hd : T[0].toNat = wd) (hwd : IntKind.i64.wrap (wd : Int) = (wd : Int))
    (hXU : T.extract 1 T.size = str u) (hul : u.length ≤ maxLen) (h0 : ¬ (m : Int) < 0) (h1 : ¬ 64 < (m : Int)) :
    Calls Tryz.prog 24 #[.string S, .int .i64 (m : Int)] w (AllPost (wchk wd (unpR u m wd)) w) := by
  have g1 : decide ((m : Int) < 0) = false := decide_eq_false h0
  have g2 : decide (64 < (m : Int)) = false := decide_eq_false h1
  have HUP := Lib.hid (fun W => unpackOo_any (str u) m wd W (by rw [str_size]; exact hul))
  have HHY := Lib.hid (fun W => hof_any (str u) m wd W (by rw [str_size]; exact hul))
  rw [str_data, ← hXU] at HUP HHY
  obtain ⟨R, hR⟩ : ∃ R, R = wchk wd (unpR u m wd) := ⟨_, rfl⟩
  rw [← hR]
  obtain ⟨xs, ex, hx⟩ : ∃ xs ex, unpR u m wd = (xs, ex) := ⟨_, _, rfl⟩
  obtain ⟨ys, ey, hy⟩ : ∃ ys ey, hreadR u m wd = (ys, ey) := ⟨_, _, rfl⟩
  have hf := unpR_facts2 hx
  rw [hx] at HUP
  rw [hy] at HHY
  rw [hx] at hR
  have HG := Lib.hid hR
  unfold AllPostO at HUP
  unfold AllPost at HHY
  have hm64 : m ≤ 64 := by omega
  clear hx hy hXU hR h0 h1 hul
  by_cases hey : ex = 0
  · subst hey
    obtain ⟨hyl, hw64, hyb⟩ := hf.2 rfl
    have HWD := Lib.hid (fun a c W (h : Nums W W.heap.size a xs) => rwidth_any a c xs W _ (by rw [hyl]; unfold maxLen; omega) hyb h)
    have hE2 : wchk wd (xs, 0) = if B.wd xs ≠ wd then ([], 1) else (xs, 0) := by unfold wchk; rw [if_neg (by simp)]
    generalize B.wd xs = v at *
    by_cases hv : v = wd
    · rw [if_neg (by omega)] at hE2
      have HR := Lib.hid (HG.out.trans hE2)
      have g11 : ((v : Int) != (wd : Int)) = false := by rw [bne_eq_false_iff_eq]; omega
      clear hE2 HG hf hv hyl hw64 hyb
      go_enter Tryz.func24, Tryz.ntmps24
      go_wp2_with fail
      refine (HUP.out _).mono ?_
      rintro e w1 ⟨a1, c1, rfl, hn1, hb1⟩
      go_wp2_with fail
      have hnn := row_nums hn1
      refine (HWD.out _ _ _ hnn).mono ?_
      rintro e w3 ⟨rfl, rfl⟩
      go_wp2_with fail
      go_ret2
      rw [HR.out]; exact ⟨a1, c1, rfl, hnn, hb1⟩
    · rw [if_pos (by omega)] at hE2
      have HR := Lib.hid (HG.out.trans hE2)
      have g11 : ((v : Int) != (wd : Int)) = true := by rw [bne_iff_ne]; omega
      clear hE2 HG hf hv hyl hw64 hyb
      go_enter Tryz.func24, Tryz.ntmps24
      go_wp2_with fail
      refine (HUP.out _).mono ?_
      rintro e w1 ⟨a1, c1, rfl, hn1, hb1⟩
      go_wp2_with fail
      have hnn := row_nums hn1
      refine (HWD.out _ _ _ hnn).mono ?_
      rintro e w3 ⟨rfl, rfl⟩
      go_wp2_with fail
      go_ret2
      rw [HR.out]; exact AllPost.none_ 1 (hb1)
  · have HR := Lib.hid (show R = ([], ex) by rw [HG.out]; unfold wchk; rw [if_pos hey])
    have g11 : ((ex : Int) != 0) = true := by rw [bne_iff_ne]; omega
    clear HG hf
    go_enter Tryz.func24, Tryz.ntmps24
    go_wp2_with fail
    refine (HUP.out _).mono ?_
    rintro e w1 ⟨a1, c1, rfl, hn1, hb1⟩
    go_wp2_with fail
    have hnn := row_nums hn1
    go_ret2
    rw [HR.out]; exact AllPost.none_ ex (hb1)

set_option maxHeartbeats 4000000 in
set_option maxRecDepth 100000 in
theorem nlof_two (S T : ByteArray) (wd : Nat) (u : List UInt8) (m : Nat) (w : World) (hz : 0 < S.size) (hz1 : 1 ≤ S.size) (hz1I : (1 : Int) ≤ (S.size : Int)) (g3 : ((S.size : Int) == 0) = false) (hc : S[0].toNat = 2)
    (hX : S.extract 1 S.size = T) (hzT : 0 < T.size) (hz1T : 1 ≤ T.size) (hz1TI : (1 : Int) ≤ (T.size : Int)) (g9 : ((T.size : Int) == 0) = false) (hd : T[0].toNat = wd) (hwd : IntKind.i64.wrap (wd : Int) = (wd : Int))
    (hXU : T.extract 1 T.size = str u) (hul : u.length ≤ maxLen) (h0 : ¬ (m : Int) < 0) (h1 : ¬ 64 < (m : Int)) :
    Calls Tryz.prog 24 #[.string S, .int .i64 (m : Int)] w (AllPost (wchk wd (hreadR u m wd)) w) := by
  have g1 : decide ((m : Int) < 0) = false := decide_eq_false h0
  have g2 : decide (64 < (m : Int)) = false := decide_eq_false h1
  have HUP := Lib.hid (fun W => unpackOo_any (str u) m wd W (by rw [str_size]; exact hul))
  have HHY := Lib.hid (fun W => hof_any (str u) m wd W (by rw [str_size]; exact hul))
  rw [str_data, ← hXU] at HUP HHY
  obtain ⟨R, hR⟩ : ∃ R, R = wchk wd (hreadR u m wd) := ⟨_, rfl⟩
  rw [← hR]
  obtain ⟨xs, ex, hx⟩ : ∃ xs ex, unpR u m wd = (xs, ex) := ⟨_, _, rfl⟩
  obtain ⟨ys, ey, hy⟩ : ∃ ys ey, hreadR u m wd = (ys, ey) := ⟨_, _, rfl⟩
  have hf := hreadR_facts hy
  rw [hx] at HUP
  rw [hy] at HHY
  rw [hy] at hR
  have HG := Lib.hid hR
  unfold AllPostO at HUP
  unfold AllPost at HHY
  have hm64 : m ≤ 64 := by omega
  clear hx hy hXU hR h0 h1 hul
  by_cases hey : ey = 0
  · subst hey
    obtain ⟨hyl, hw64, hyb⟩ := hf.2 rfl
    have HWD := Lib.hid (fun a c W (h : Nums W W.heap.size a ys) => rwidth_any a c ys W _ (by rw [hyl]; unfold maxLen; omega) hyb h)
    have hE2 : wchk wd (ys, 0) = if B.wd ys ≠ wd then ([], 1) else (ys, 0) := by unfold wchk; rw [if_neg (by simp)]
    generalize B.wd ys = v at *
    by_cases hv : v = wd
    · rw [if_neg (by omega)] at hE2
      have HR := Lib.hid (HG.out.trans hE2)
      have g11 : ((v : Int) != (wd : Int)) = false := by rw [bne_eq_false_iff_eq]; omega
      clear hE2 HG hf hv hyl hw64 hyb
      go_enter Tryz.func24, Tryz.ntmps24
      go_wp2_with fail
      refine (HUP.out _).mono ?_
      rintro e w1 ⟨a1, c1, rfl, hn1, hb1⟩
      go_wp2_with fail
      refine (HHY.out _).mono ?_
      rintro e w2 ⟨a2, c2, rfl, hn2, hb2⟩
      go_wp2_with fail
      refine (HWD.out _ _ _ hn2).mono ?_
      rintro e w3 ⟨rfl, rfl⟩
      go_wp2_with fail
      go_ret2
      rw [HR.out]; exact ⟨a2, c2, rfl, hn2, below_then hb1 hb2⟩
    · rw [if_pos (by omega)] at hE2
      have HR := Lib.hid (HG.out.trans hE2)
      have g11 : ((v : Int) != (wd : Int)) = true := by rw [bne_iff_ne]; omega
      clear hE2 HG hf hv hyl hw64 hyb
      go_enter Tryz.func24, Tryz.ntmps24
      go_wp2_with fail
      refine (HUP.out _).mono ?_
      rintro e w1 ⟨a1, c1, rfl, hn1, hb1⟩
      go_wp2_with fail
      refine (HHY.out _).mono ?_
      rintro e w2 ⟨a2, c2, rfl, hn2, hb2⟩
      go_wp2_with fail
      refine (HWD.out _ _ _ hn2).mono ?_
      rintro e w3 ⟨rfl, rfl⟩
      go_wp2_with fail
      go_ret2
      rw [HR.out]; exact AllPost.none_ 1 (below_then hb1 hb2)
  · have HR := Lib.hid (show R = ([], ey) by rw [HG.out]; unfold wchk; rw [if_pos hey])
    have g11 : ((ey : Int) != 0) = true := by rw [bne_iff_ne]; omega
    clear HG hf
    go_enter Tryz.func24, Tryz.ntmps24
    go_wp2_with fail
    refine (HUP.out _).mono ?_
    rintro e w1 ⟨a1, c1, rfl, hn1, hb1⟩
    go_wp2_with fail
    refine (HHY.out _).mono ?_
    rintro e w2 ⟨a2, c2, rfl, hn2, hb2⟩
    go_wp2_with fail
    go_ret2
    rw [HR.out]; exact AllPost.none_ ey (below_then hb1 hb2)

set_option maxHeartbeats 4000000 in
set_option maxRecDepth 100000 in
theorem nlof_any (s : List UInt8) (many : Int) (w : World) (hs : s.length ≤ maxLen) :
    Calls Tryz.prog 24 #[.string (str s), .int .i64 many] w (AllPost (nlR s many) w) := by
  unfold maxLen at hs
  by_cases h0 : many < 0
  · have HR := Lib.hid (show nlR s many = ([], 3) from if_pos h0)
    have g1 : decide (many < 0) = true := decide_eq_true h0
    go_enter Tryz.func24, Tryz.ntmps24
    go_wp2_with fail
    go_ret2
    rw [HR.out]; exact AllPost.none_ 3 (Below.refl _ _)
  have g1 : decide (many < 0) = false := decide_eq_false h0
  by_cases h1 : 64 < many
  · have HR := Lib.hid (show nlR s many = ([], 2) by unfold nlR; rw [if_neg h0, if_pos h1])
    have g2 : decide (64 < many) = true := decide_eq_true h1
    go_enter Tryz.func24, Tryz.ntmps24
    go_wp2_with fail
    go_ret2
    rw [HR.out]; exact AllPost.none_ 2 (Below.refl _ _)
  have g2 : decide (64 < many) = false := decide_eq_false h1
  obtain ⟨m, rfl⟩ : ∃ m : Nat, many = m := ⟨many.toNat, by omega⟩
  cases s with
  | nil =>
    have HR := Lib.hid (show nlR [] m = ([], 5) by unfold nlR; rw [if_neg h0, if_neg h1])
    have g3 : (((str []).size : Int) == 0) = true := by rw [str_size]; rfl
    generalize str [] = S at *
    go_enter Tryz.func24, Tryz.ntmps24
    go_wp2_with fail
    go_ret2
    rw [HR.out]; exact AllPost.none_ 5 (Below.refl _ _)
  | cons c t =>
    have hE : nlR (c :: t) m = if c.toNat < 1 ∨ 4 < c.toNat then ([], 7) else if c.toNat = 3 then dreadR t m else if c.toNat = 4 then P.read t m else nl2 c.toNat m t := by
      unfold nlR; rw [if_neg h0, if_neg h1]
    have hsz := str_size (c :: t)
    rw [List.length_cons] at hsz hs
    have hz : 0 < (str (c :: t)).size := by omega
    have hz1 : 1 ≤ (str (c :: t)).size := by omega
    have hz1I : (1 : Int) ≤ ((str (c :: t)).size : Int) := by omega
    have g3 : (((str (c :: t)).size : Int) == 0) = false := by rw [beq_eq_false_iff_ne]; omega
    have hc : (str (c :: t))[0].toNat = c.toNat := rfl
    have hX := str_tail c t
    have hcl := c.toNat_lt
    have hwc : IntKind.i64.wrap (c.toNat : Int) = (c.toNat : Int) := by rw [IntKind.wrap_i64]; omega
    generalize str (c :: t) = S at *
    generalize nlR (c :: t) m = R at *
    generalize c.toNat = n at *
    by_cases h7 : n < 1 ∨ 4 < n
    · rw [if_pos h7] at hE
      have HR := Lib.hid hE
      clear hE hX hsz
      by_cases h71 : n < 1
      · have g5 : decide ((n : Int) < 1) = true := decide_eq_true (by omega)
        clear h7 h71
        go_enter Tryz.func24, Tryz.ntmps24
        go_wp2_with fail
        go_ret2
        rw [HR.out]; exact AllPost.none_ 7 (Below.refl _ _)
      · have g5 : decide ((n : Int) < 1) = false := decide_eq_false (by omega)
        have g6 : decide ((4 : Int) < (n : Int)) = true := decide_eq_true (by omega)
        clear h7 h71
        go_enter Tryz.func24, Tryz.ntmps24
        go_wp2_with fail
        go_ret2
        rw [HR.out]; exact AllPost.none_ 7 (Below.refl _ _)
    rw [if_neg h7] at hE
    have g5 : decide ((n : Int) < 1) = false := decide_eq_false (by omega)
    have g6 : decide ((4 : Int) < (n : Int)) = false := decide_eq_false (by omega)
    by_cases h3 : n = 3
    · rw [if_pos h3] at hE
      have HR := Lib.hid hE
      have HC := Lib.hid (fun W => dof_any (str t) m W (by rw [str_size]; unfold maxLen; omega))
      rw [str_data, ← hX] at HC
      unfold AllPost at HC
      subst h3
      clear hE hX hsz h7
      go_enter Tryz.func24, Tryz.ntmps24
      go_wp2_with fail
      refine (HC.out _).mono ?_
      rintro e w1 ⟨a, c, rfl, ht, hb⟩
      go_wp2_with fail
      go_ret2
      rw [HR.out]; exact ⟨a, c, rfl, ht, hb⟩
    rw [if_neg h3] at hE
    have g7 : ((n : Int) == 3) = false := by rw [beq_eq_false_iff_ne]; omega
    by_cases h4 : n = 4
    · rw [if_pos h4] at hE
      have HR := Lib.hid hE
      have HC := Lib.hid (fun W => rpof_any (str t) m W (by rw [str_size]; unfold maxLen; omega))
      rw [str_data, ← hX] at HC
      unfold AllPost at HC
      subst h4
      clear hE hX hsz h7
      go_enter Tryz.func24, Tryz.ntmps24
      go_wp2_with fail
      refine (HC.out _).mono ?_
      rintro e w1 ⟨a, c, rfl, ht, hb⟩
      go_wp2_with fail
      go_ret2
      rw [HR.out]; exact ⟨a, c, rfl, ht, hb⟩
    rw [if_neg h4] at hE
    have g8 : ((n : Int) == 4) = false := by rw [beq_eq_false_iff_ne]; omega
    have HX := Lib.hid hX
    have hts : (str t).size = S.size - 1 := by have := congrArg ByteArray.size hX; rw [← this]; simp
    cases t with
    | nil =>
      have HR := Lib.hid (show R = ([], 5) from hE)
      have g9 : ((S.size - 1 : Nat) : Int) = 0 := by rw [← hts, str_size]; rfl
      have g9' : S.size - 1 = 0 := by omega
      clear hE hX hts h7
      go_enter Tryz.func24, Tryz.ntmps24
      go_wp2_with fail
      go_ret2
      rw [HR.out]; exact AllPost.none_ 5 (Below.refl _ _)
    | cons d u =>
      have hsu := str_size (d :: u)
      rw [List.length_cons] at hsu hs
      have hzT : 0 < (str (d :: u)).size := by omega
      have hz1T : 1 ≤ (str (d :: u)).size := by omega
      have hz1TI : (1 : Int) ≤ ((str (d :: u)).size : Int) := by omega
      have g9 : (((str (d :: u)).size : Int) == 0) = false := by rw [beq_eq_false_iff_ne]; omega
      have hXU := str_tail d u
      have hdl := d.toNat_lt
      have hwd : IntKind.i64.wrap (d.toNat : Int) = (d.toNat : Int) := by rw [IntKind.wrap_i64]; omega
      have hnn : n = 1 ∨ n = 2 := by omega
      rcases hnn with rfl | rfl
      · rw [hE]
        exact nlof_one S (str (d :: u)) (d.toNat) u m w hz hz1 hz1I g3 hc hX hzT hz1T hz1TI g9 rfl hwd hXU (by unfold maxLen; omega) h0 h1
      · rw [hE]
        exact nlof_two S (str (d :: u)) (d.toNat) u m w hz hz1 hz1I g3 hc hX hzT hz1T hz1TI g9 rfl hwd hXU (by unfold maxLen; omega) h0 h1
end Go.Proofs.YtmiboibadccceaaGreat
/- Out of DL1: diffs_cons, hread_natd, dread_back. -/
namespace Go.Proofs.YtmiboibadccceaaGreat
open Go.RowKit
set_option linter.unusedVariables false

theorem diffs_cons (x : Nat) (t : List Nat) (hx : x < 18446744073709551616) : D.diffs (x :: t) = x :: (D.diffs (x :: t)).drop 1 := by
  have h : (D.fd 0 x).2 = x := by unfold D.fd; simp only; omega
  show D.runF D.fd 0 (x :: t) = _
  unfold D.diffs
  simp only [D.runF, List.drop_succ_cons, List.drop_zero, h]
theorem hread_natd (s : List UInt8) (m n : Nat) (hm : m ≤ 64) (hn : n ≤ 64) : hreadR s m n = H.read s m n := by
  unfold hreadR
  rw [if_neg (by omega), if_neg (by omega), Int.toNat_natCast, Int.toNat_natCast]
theorem dread_back (l : List Nat) (hx : ∀ x ∈ l, x < 18446744073709551616) (hl : l.length ≤ 64) : dreadR (dbytes l) l.length = (l, 0) := by
  cases l with
  | nil => rfl
  | cons x t =>
    have hx0 : x < 18446744073709551616 := hx x (by simp)
    have hlz := dz_length (x :: t)
    have hzx := dz_lt (x :: t) hx
    have hw := B.wd_64 _ hzx
    have hdd := diffs_cons x t hx0
    have hrb := H.read_back (B.wd (dz (x :: t))) (dz (x :: t)) (by rw [hlz]; omega) ((B.wd_le _ _).1 (Nat.le_refl _))
    have hzd : x :: D.zags (dz (x :: t)) = D.diffs (x :: t) := by
      unfold dz
      rw [D.zags_zigs _ (fun y h => D.diffs_lt (x :: t) hx y (List.mem_of_mem_drop h))]
      exact hdd.symm
    have hsd := D.sums_diffs (x :: t) hx
    unfold dreadR dbytes
    rw [if_neg (by omega), if_neg (by omega), if_neg (by simp; omega), if_neg (by simp), Int.toNat_natCast]
    have hm1 : (x :: t).length - 1 = (dz (x :: t)).length := hlz.symm
    unfold parseR
    rw [hm1]
    generalize dz (x :: t) = z at *
    generalize hwd : B.wd z = wd at *
    have hrd := V.rd_enc x hx0 (UInt8.ofNat wd :: H.bytes wd z)
    have e : (V.enc ((x :: t).headD 0) ++ [UInt8.ofNat wd]) ++ H.bytes wd z = V.enc x ++ (UInt8.ofNat wd :: H.bytes wd z) := by simp
    rw [e, hrd]
    have hel := V.enc_length x
    rw [if_neg (by simp), if_neg (by simp only [List.length_append, List.length_cons]; omega)]
    have hg : (V.enc x ++ (UInt8.ofNat wd :: H.bytes wd z)).getD (V.sz x) 0 = UInt8.ofNat wd := by
      rw [← hel]; simp [List.getD]
    have hd : (V.enc x ++ (UInt8.ofNat wd :: H.bytes wd z)).drop (V.sz x + 1) = H.bytes wd z := by
      rw [← hel, ← List.drop_drop]; simp
    have hu : (UInt8.ofNat wd).toNat = wd := by simp; omega
    simp only
    rw [hg, hd, hu, hread_natd _ _ _ (by omega) hw, hrb]
    unfold parse2 dread2
    simp only [hwd]
    simp [hzd, hsd]
end Go.Proofs.YtmiboibadccceaaGreat
/- What holds of the ways by which numbers and texts are written. -/
namespace Go.Proofs.YtmiboibadccceaaGreat
open Go.RowKit
set_option linter.unusedVariables false

theorem unp_pk (w : Nat) (l : List Nat) (hl : l.length ≤ 64) (hw : w ≤ 64) (hx : ∀ x ∈ l, x < 2 ^ w) : unpR (B.le (B.sz (l.length * w)) (B.pk w l)) l.length w = (l, 0) := by
  have h1 := H.leN_pkd w l hx
  have h2 := H.pk_top w l hx
  unfold H.pkd at h1
  have hc : chkR (B.le (B.sz (l.length * w)) (B.pk w l)) l.length w = 0 := by
    unfold chkR chkF
    rw [if_neg (by omega), if_neg (by omega), Int.toNat_natCast, Int.toNat_natCast, h1, h2, B.le_length]
    simp
  unfold unpR
  rw [if_pos hc, Int.toNat_natCast, Int.toNat_natCast, h1, B.dg_pk w l hx]
theorem hread_bytes (w : Nat) (l : List Nat) (hl : l.length ≤ 64) (hw : w ≤ 64) (hx : ∀ x ∈ l, x < 2 ^ w) : hreadR (H.bytes w l) l.length w = (l, 0) := by
  rw [hread_natd _ _ _ hl hw, H.read_back w l hl hx]
theorem wchk_ok (l : List Nat) : wchk (B.wd l) (l, 0) = (l, 0) := by unfold wchk; simp
theorem nl_back (way : Nat) (l : List Nat) (hway : 1 ≤ way ∧ way ≤ 4) (hl : l.length ≤ 64) (hx : ∀ x ∈ l, x < 18446744073709551616) : nlR (nbW way l) l.length = (l, 0) := by
  have hw := B.wd_64 l hx
  have hwx := (B.wd_le l (B.wd l)).1 (Nat.le_refl _)
  have hu : (UInt8.ofNat (B.wd l)).toNat = B.wd l := by simp; omega
  unfold nlR
  rw [if_neg (by omega), if_neg (by omega)]
  have h4 : way = 1 ∨ way = 2 ∨ way = 3 ∨ way = 4 := by omega
  rcases h4 with rfl | rfl | rfl | rfl
  · show (if (1 : Nat) < 1 ∨ 4 < (1 : Nat) then ([], 7) else if (1 : Nat) = 3 then _ else if (1 : Nat) = 4 then _ else nl2 1 l.length ([UInt8.ofNat (B.wd l)] ++ B.le (B.sz (l.length * B.wd l)) (B.pk (B.wd l) l))) = _
    rw [if_neg (by decide), if_neg (by decide), if_neg (by decide)]
    show wchk (UInt8.ofNat (B.wd l)).toNat (if (1 : Nat) = 2 then _ else unpR (B.le (B.sz (l.length * B.wd l)) (B.pk (B.wd l) l)) l.length (UInt8.ofNat (B.wd l)).toNat) = _
    rw [if_neg (by decide), hu, unp_pk _ l hl hw hwx, wchk_ok]
  · show (if (2 : Nat) < 1 ∨ 4 < (2 : Nat) then ([], 7) else if (2 : Nat) = 3 then _ else if (2 : Nat) = 4 then _ else nl2 2 l.length ([UInt8.ofNat (B.wd l)] ++ H.bytes (B.wd l) l)) = _
    rw [if_neg (by decide), if_neg (by decide), if_neg (by decide)]
    show wchk (UInt8.ofNat (B.wd l)).toNat (if (2 : Nat) = 2 then hreadR (H.bytes (B.wd l) l) l.length (UInt8.ofNat (B.wd l)).toNat else _) = _
    rw [if_pos rfl, hu, hread_bytes _ l hl hw hwx, wchk_ok]
  · show (if (3 : Nat) < 1 ∨ 4 < (3 : Nat) then ([], 7) else if (3 : Nat) = 3 then dreadR (dbytes l) l.length else _) = _
    rw [if_neg (by decide), if_pos rfl, dread_back l hx hl]
  · show (if (4 : Nat) < 1 ∨ 4 < (4 : Nat) then ([], 7) else if (4 : Nat) = 3 then _ else if (4 : Nat) = 4 then P.read (P.bytes l) l.length else _) = _
    rw [if_neg (by decide), if_neg (by decide), if_pos rfl, P.read_back l hx hl]

theorem bstep_le (t s : List UInt8) : (bstep t s).length ≤ t.length ∧ (bstep t s).length ≤ s.length ∧ (bstep t s = t ∨ bstep t s = s) := by
  unfold bstep
  by_cases h : t.length ≤ s.length
  · rw [if_pos h]; exact ⟨Nat.le_refl _, h, Or.inl rfl⟩
  · rw [if_neg h]; exact ⟨by omega, Nat.le_refl _, Or.inr rfl⟩
theorem bestNW_is (l : List Nat) : ∃ way, 1 ≤ way ∧ way ≤ 4 ∧ bestNW l = nbW way l := by
  unfold bestNW
  rcases (bstep_le (nbW 1 l) (bstep (nbW 2 l) (bstep (nbW 3 l) (nbW 4 l)))).2.2 with h | h
  · exact ⟨1, by omega, by omega, h⟩
  rcases (bstep_le (nbW 2 l) (bstep (nbW 3 l) (nbW 4 l))).2.2 with h2 | h2
  · exact ⟨2, by omega, by omega, h.trans h2⟩
  rcases (bstep_le (nbW 3 l) (nbW 4 l)).2.2 with h3 | h3
  · exact ⟨3, by omega, by omega, (h.trans h2).trans h3⟩
  · exact ⟨4, by omega, by omega, (h.trans h2).trans h3⟩
theorem bestNW_le (l : List Nat) (way : Nat) (h : 1 ≤ way ∧ way ≤ 4) : (bestNW l).length ≤ (nbW way l).length := by
  unfold bestNW
  have h1 := bstep_le (nbW 1 l) (bstep (nbW 2 l) (bstep (nbW 3 l) (nbW 4 l)))
  have h2 := bstep_le (nbW 2 l) (bstep (nbW 3 l) (nbW 4 l))
  have h3 := bstep_le (nbW 3 l) (nbW 4 l)
  have h4 : way = 1 ∨ way = 2 ∨ way = 3 ∨ way = 4 := by omega
  rcases h4 with rfl | rfl | rfl | rfl <;> omega
theorem best_back (l : List Nat) (hl : l.length ≤ 64) (hx : ∀ x ∈ l, x < 18446744073709551616) : nlR (bestNW l) l.length = (l, 0) := by
  obtain ⟨way, h1, h2, e⟩ := bestNW_is l
  rw [e]; exact nl_back way l ⟨h1, h2⟩ hl hx

theorem bestTW_is (l : List (List UInt8)) : ∃ way, 5 ≤ way ∧ way ≤ 7 ∧ bestTW l = txB way l := by
  unfold bestTW
  rcases (bstep_le (txB 5 l) (bstep (txB 6 l) (txB 7 l))).2.2 with h | h
  · exact ⟨5, by omega, by omega, h⟩
  rcases (bstep_le (txB 6 l) (txB 7 l)).2.2 with h2 | h2
  · exact ⟨6, by omega, by omega, h.trans h2⟩
  · exact ⟨7, by omega, by omega, h.trans h2⟩
theorem bestTW_le (l : List (List UInt8)) (way : Nat) (h : 5 ≤ way ∧ way ≤ 7) : (bestTW l).length ≤ (txB way l).length := by
  unfold bestTW
  have h1 := bstep_le (txB 5 l) (bstep (txB 6 l) (txB 7 l))
  have h2 := bstep_le (txB 6 l) (txB 7 l)
  have h4 : way = 5 ∨ way = 6 ∨ way = 7 := by omega
  rcases h4 with rfl | rfl | rfl <;> omega

theorem plain_back : ∀ (l : List (List UInt8)), (∀ x ∈ l, x.length ≤ 16) → plR l.length (plainB l) = (l, 0)
  | [], _ => rfl
  | x :: t, hx => by
    have h1 := hx x (by simp)
    have ih := plain_back t (fun y hy => hx y (by simp [hy]))
    have hr := V.rd_enc x.length (by omega) (x ++ plainB t)
    have he := V.enc_length x.length
    have e : plainB (x :: t) = V.enc x.length ++ (x ++ plainB t) := by unfold plainB; rw [List.flatMap_cons, List.append_assoc]
    have hd : (plainB (x :: t)).drop (V.sz x.length) = x ++ plainB t := by rw [e, ← he]; simp
    rw [List.length_cons]
    have hln : V.sz x.length + x.length ≤ (plainB (x :: t)).length := by rw [e]; simp only [List.length_append]; omega
    rw [← e] at hr
    unfold plR
    rw [hr]
    simp only [ne_eq, not_true_eq_false, if_false]
    rw [if_neg (by omega), if_neg (by omega), ← List.drop_drop, hd]
    have hd2 : (x ++ plainB t).drop x.length = plainB t := by simp
    rw [hd2, ih]
    simp
theorem front_back (l : List (List UInt8)) (hl : l.length ≤ 64) (hx : ∀ x ∈ l, x.length ≤ 16) : freadR (F.fb [] l) l.length = (l, 0) := by
  unfold freadR
  rw [if_neg (by omega), if_neg (by omega), Int.toNat_natCast, F.fr_fb l [] hx]
theorem book_back (l : List (List UInt8)) (hf : fitR l = 0) : btR l.length (V.enc (T.bk l).length ++ B.le (B.sz (l.length * bw (T.bk l).length)) (B.pk (bw (T.bk l).length) (l.map (T.plc (T.bk l)))) ++ F.fb [] (T.bk l)) = (l, 0) := by
  obtain ⟨hl, hx⟩ := fit_zero hf
  have hbl := bk_length l
  have htx := texts_bk hf
  have hcl : ∀ x ∈ l.map (T.plc (T.bk l)), x < 2 ^ bw (T.bk l).length := fun x h => by
    obtain ⟨y, hy, rfl⟩ := List.mem_map.1 h
    exact bw_fit (code_lt hy).1
  have hfb := front_back (T.bk l) (by omega) (fit_zero (bk_fit hf)).2
  have hup := unp_pk (bw (T.bk l).length) (l.map (T.plc (T.bk l))) (by simpa using hl) (bw_le _ (by omega)) hcl
  have hml : (l.map (T.plc (T.bk l))).length = l.length := by simp
  rw [hml] at hup
  clear hcl hml
  generalize l.map (T.plc (T.bk l)) = cs at *
  generalize T.bk l = b at *
  have hlb := B.le_length (B.sz (l.length * bw b.length)) (B.pk (bw b.length) cs)
  generalize hX : B.le (B.sz (l.length * bw b.length)) (B.pk (bw b.length) cs) = X at *
  generalize hY : F.fb [] b = Y at *
  have hr := V.rd_enc b.length (by omega) (X ++ Y)
  have he := V.enc_length b.length
  rw [List.append_assoc]
  have hd1 : (V.enc b.length ++ (X ++ Y)).drop (V.sz b.length) = X ++ Y := by rw [← he]; simp
  have hd2 : (X ++ Y).take (B.sz (l.length * bw b.length)) = X := by rw [← hlb]; simp
  have hd3 : (V.enc b.length ++ (X ++ Y)).drop (V.sz b.length + B.sz (l.length * bw b.length)) = Y := by
    rw [← List.drop_drop, hd1, ← hlb]; simp
  rw [bt_ok (u := cs) (b := b) hr (by omega) rfl (by simp only [List.length_append]; omega) (by rw [hd1, hd2]; exact hup) (by rw [hd3]; exact hfb)]
  exact htx
theorem tl_back (way : Nat) (l : List (List UInt8)) (hway : 5 ≤ way ∧ way ≤ 7) (hf : fitR l = 0) : tlR (txB way l) l.length = (l, 0) := by
  obtain ⟨hl, hx⟩ := fit_zero hf
  unfold tlR
  rw [if_neg (by omega), if_neg (by omega)]
  have h4 : way = 5 ∨ way = 6 ∨ way = 7 := by omega
  rcases h4 with rfl | rfl | rfl
  · show (if (5 : Nat) = 5 then plR (l.length : Int).toNat (plainB l) else _) = _
    rw [if_pos rfl, Int.toNat_natCast, plain_back l hx]
  · show (if (6 : Nat) = 5 then _ else if (6 : Nat) = 6 then btR (l.length : Int).toNat (V.enc (T.bk l).length ++ B.le (B.sz (l.length * bw (T.bk l).length)) (B.pk (bw (T.bk l).length) (l.map (T.plc (T.bk l)))) ++ F.fb [] (T.bk l)) else _) = _
    rw [if_neg (by decide), if_pos rfl, Int.toNat_natCast, book_back l hf]
  · show (if (7 : Nat) = 5 then _ else if (7 : Nat) = 6 then _ else if (7 : Nat) = 7 then freadR (F.fb [] l) l.length else _) = _
    rw [if_neg (by decide), if_neg (by decide), if_pos rfl, front_back l hl hx]
theorem tbest_back (l : List (List UInt8)) (hf : fitR l = 0) : tlR (bestTW l) l.length = (l, 0) := by
  obtain ⟨way, h1, h2, e⟩ := bestTW_is l
  rw [e]; exact tl_back way l ⟨h1, h2⟩ hf

theorem up_ext : ∀ (a b : List (List UInt8)), T.Up a → T.Up b → (∀ x, x ∈ a ↔ x ∈ b) → a = b
  | [], b, _, _, h => by
    cases b with
    | nil => rfl
    | cons y s => exact absurd ((h y).2 (by simp)) (by simp)
  | x :: t, [], _, _, h => absurd ((h x).1 (by simp)) (by simp)
  | x :: t, y :: s, ha, hb, h => by
    have ha' := List.pairwise_cons.1 ha
    have hb' := List.pairwise_cons.1 hb
    have hxy : x = y := by
      rcases List.mem_cons.1 ((h x).1 (by simp)) with e | e
      · exact e
      rcases List.mem_cons.1 ((h y).2 (by simp)) with e2 | e2
      · exact e2.symm
      exact absurd (T.lt_tr (ha'.1 y e2) (hb'.1 x e)) (T.lt_irr x)
    subst hxy
    have : t = s := up_ext t s ha'.2 hb'.2 fun z => by
      constructor
      · intro hz
        rcases List.mem_cons.1 ((h z).1 (by simp [hz])) with e | e
        · exact absurd (e ▸ ha'.1 z hz) (T.lt_irr x)
        · exact e
      · intro hz
        rcases List.mem_cons.1 ((h z).2 (by simp [hz])) with e | e
        · exact absurd (e ▸ hb'.1 z hz) (T.lt_irr x)
        · exact e
    rw [this]
theorem bk_reverse (l : List (List UInt8)) : T.bk l.reverse = T.bk l :=
  up_ext _ _ (T.bk_up _) (T.bk_up _) fun x => by rw [T.bk_mem, T.bk_mem, List.mem_reverse]
theorem book_turned (l : List (List UInt8)) : (txB 6 l.reverse).length = (txB 6 l).length := by
  show ([6] ++ V.enc (T.bk l.reverse).length ++ B.le (B.sz (l.reverse.length * bw (T.bk l.reverse).length)) (B.pk (bw (T.bk l.reverse).length) (l.reverse.map (T.plc (T.bk l.reverse)))) ++ F.fb [] (T.bk l.reverse)).length
     = ([6] ++ V.enc (T.bk l).length ++ B.le (B.sz (l.length * bw (T.bk l).length)) (B.pk (bw (T.bk l).length) (l.map (T.plc (T.bk l)))) ++ F.fb [] (T.bk l)).length
  rw [bk_reverse]
  simp only [List.length_append, B.le_length, List.length_reverse]
theorem fit_reverse {l : List (List UInt8)} (h : fitR l = 0) : fitR l.reverse = 0 := by
  obtain ⟨h1, h2⟩ := fit_zero h
  exact fit_of (by simpa using h1) fun x hx => h2 x (List.mem_reverse.1 hx)
end Go.Proofs.YtmiboibadccceaaGreat
/- What codecBegun asks, of the reference's ways. -/
namespace Go.Proofs.YtmiboibadccceaaGreat
open Go.RowKit
set_option linter.unusedVariables false

set_option maxRecDepth 100000 in
theorem begun_nums : bestNW (List.replicate 20 9) = [2, 4, 40, 9] := by decide
def rook : List UInt8 := [114, 111, 111, 107]
def wren : List UInt8 := [119, 114, 101, 110]
theorem begun_book : T.bk [rook, wren, rook, rook, rook] = [rook, wren] := by
  refine up_ext _ _ (T.bk_up _) ?_ fun x => ?_
  · unfold T.Up; decide
  · rw [T.bk_mem]; simp
    exact ⟨fun h => h.elim Or.inl fun h => h.elim Or.inr Or.inl, fun h => h.elim Or.inl fun h => Or.inr (Or.inl h)⟩
set_option maxRecDepth 100000 in
theorem begun_texts : bestTW [rook, wren, rook, rook, rook] = [6, 2, 2, 0, 4, 114, 111, 111, 107, 0, 4, 119, 114, 101, 110] := by
  have h6 : txB 6 [rook, wren, rook, rook, rook] = [6] ++ V.enc 2 ++ B.le (B.sz (5 * bw 2)) (B.pk (bw 2) ([rook, wren, rook, rook, rook].map (T.plc [rook, wren]))) ++ F.fb [] [rook, wren] := by
    show [6] ++ V.enc (T.bk [rook, wren, rook, rook, rook]).length ++ B.le (B.sz ([rook, wren, rook, rook, rook].length * bw (T.bk [rook, wren, rook, rook, rook]).length)) (B.pk (bw (T.bk [rook, wren, rook, rook, rook]).length) ([rook, wren, rook, rook, rook].map (T.plc (T.bk [rook, wren, rook, rook, rook])))) ++ F.fb [] (T.bk [rook, wren, rook, rook, rook]) = _
    rw [begun_book]; rfl
  unfold bestTW
  rw [h6]
  decide
end Go.Proofs.YtmiboibadccceaaGreat
