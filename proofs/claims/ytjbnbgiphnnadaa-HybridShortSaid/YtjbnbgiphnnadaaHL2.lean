/- The law HybridShort. -/
import Derived.Test.YtjbnbgiphnnadaaHL1
namespace Go.Proofs.Ytjbnbgiphnnadaa
open Go.RowKit
set_option linter.unusedVariables false

theorem bytes_one (w : Nat) (l : List Nat) (hl : l.length ≤ 64) (hw : w ≤ 64) (h8 : 8 ≤ l.length) (hr : H.row l = l.length) : (H.bytes w l).length ≤ 10 := by
  have h0 : l ≠ [] := fun e => by rw [e] at h8; simp at h8
  rw [H.bytes_run w l h0 (by omega), hr, List.drop_length, H.bytes_nil, List.append_nil]
  simp only [H.Part.bytes, List.length_append, V.enc_length, H.pkd_length, List.length_cons, List.length_nil, Nat.zero_add, Nat.one_mul]
  have := H.vsz2 (2 * l.length) (by omega)
  unfold B.sz; omega

theorem pack_is (l : List Nat) (n : Nat) (hn : n ≤ 64) (hl : l.length ≤ 64) (hf : ∀ x ∈ l, x < 2 ^ n) : packR l n = (H.pkd n l, 0) := by
  unfold packR
  rw [if_neg (by omega), if_neg (by omega), Int.toNat_natCast, if_neg (by have := (B.wd_le l n).2 hf; omega)]; rfl

set_option maxHeartbeats 1000000 in
set_option maxRecDepth 100000 in
theorem hybridShort_walk (w : World) (a : Option Addr) (c : Nat) (l : List Nat) (hm : l.length ≤ maxLen) (hcap : l.length ≤ c ∧ c ≤ maxLen ∧ (a = none → c = 0)) (hx : ∀ x ∈ l, x < 18446744073709551616) (hu : Nums w w.heap.size a l)
    (wide : Int) (hw : -9223372036854775808 ≤ wide ∧ wide ≤ 9223372036854775807) :
    Calls Try.prog 7 #[.slice a l.length c, .int .i64 wide] w (BoolPost true w) := by
  have hwr := hwrite_any a c l wide w hcap.1 hcap.2.1 hx hu
  unfold maxLen at hm
  rcases hwrite_cases l wide with ⟨er, he, hr⟩ | ⟨n, rfl, hn, hl, hf, hr, hlen⟩
  · rw [hr] at hwr
    have HWR := Lib.hid hwr
    have g1 : ((er : Int) != 0) = true := by rw [bne_iff_ne]; omega
    clear hwr hr hx
    go_enter Try.func7, Try.ntmps7
    go_wp2_with fail
    refine (HWR.out).mono ?_
    rintro e w1 ⟨rfl, hb1⟩
    go_wp2_with fail
    refine (hbegun_any _).mono ?_
    rintro e w2 ⟨rfl, hb2⟩
    go_wp2_with fail
    go_ret
    exact ⟨rfl, below_then hb1 hb2⟩
  · rw [hr] at hwr
    have hpk := fun w hu => pack_any a c l n w hx hu
    rw [pack_is l n hn hl hf] at hpk
    have hbd := H.bytes_bound n l hl
    have hpl := H.pkd_length n l
    have hone := bytes_one n l hl hn
    obtain ⟨t1, ht1⟩ : ∃ t1, t1 = str (H.bytes n l) := ⟨_, rfl⟩
    obtain ⟨t2, ht2⟩ : ∃ t2, t2 = str (H.pkd n l) := ⟨_, rfl⟩
    obtain ⟨q, hq⟩ : ∃ q, q = l.length / 4 := ⟨_, rfl⟩
    have hmul : l.length * n ≤ 64 * 64 := Nat.mul_le_mul hl hn
    have hs1 : t1.size = (H.bytes n l).length := by rw [ht1, str_size]
    have hs2 : t2.size = B.sz (l.length * n) := by rw [ht2, str_size, hpl]
    have hfin : t1.size ≤ t2.size + n + q + 2 := by rw [hs1, hs2, hq]; unfold B.sz; omega
    have hs2b : t2.size ≤ 512 := by rw [hs2]; unfold B.sz; omega
    have hs1b : t1.size ≤ 1048576 := by omega
    rw [← hs1] at hone
    have HONE := Lib.hid hone
    have hqI : ((l.length : Int) / 4) = (q : Int) := by omega
    have HWR := Lib.hid (show Calls Try.prog 9 #[.slice a l.length c, .int .i64 (n : Int)] w (fun e w' => e = .returned (.tuple #[.string t1, .int .i64 0]) ∧ Below w.heap.size w w') by rw [ht1]; exact hwr)
    have HPK := Lib.hid (fun w hu => show Calls Try.prog 17 #[.slice a l.length c, .int .i64 (n : Int)] w (fun e w' => e = .returned (.tuple #[.string t2, .int .i64 0]) ∧ Below w.heap.size w w') by rw [ht2]; exact hpk w hu)
    have g1 : decide ((t1.size : Int) ≤ (t2.size : Int) + (n : Int) + (q : Int) + 2) = true := by simp; omega
    have g2 : decide (t1.size ≤ t2.size + n + q + 2) = true := by simp; omega
    have HRS := Lib.hid (fun k hk hl => H.rowF_step (l.headD 0) l k hk hl)
    have hrow : H.row l = H.rowF (l.headD 0) l := rfl
    rw [← hrow] at HRS
    have hrl := H.row_le l
    have hhd : l.headD 0 = l.getD 0 0 := by cases l <;> rfl
    have hrp : l ≠ [] → 1 ≤ H.row l := H.row_pos l
    have HU := Lib.hid hu
    clear hwr hpk hr hx hf ht1 ht2 hbd hpl hlen hs1 hs2 hone hmul hq hrow
    generalize H.row l = r at *
    go_enter Try.func7, Try.ntmps7
    go_wp2_with fail
    refine (HWR.out).mono ?_
    rintro e w1 ⟨rfl, hb1⟩
    go_wp2_with fail
    refine (hbegun_any _).mono ?_
    rintro e w2 ⟨rfl, hb2⟩
    have h2 := below_then hb1 hb2
    go_wp2_with fail
    refine (HPK.out _ (HU.out.next h2)).mono ?_
    rintro e w3 ⟨rfl, hb3⟩
    have h3 := below_then h2 hb3
    go_wp2_with fail
    go_loopw [9, 10] (fun o i wr => ∃ (b : Bool) (k : Nat), o = .bool b ∧ i = .int .i64 k ∧ 1 ≤ k ∧ (k ≤ l.length ∨ k = 1) ∧ Hid (b = true → 8 ≤ l.length ∧ k ≤ r) ∧ Below w.heap.size w wr) (fun _ i _ => l.length - (intOf i).toNat)
    case atStart => 
      refine ⟨decide (8 ≤ l.length), 1, ?_, rfl, by omega, by omega, Lib.hid ?_, h3⟩
      · congr 1; simp only [decide_eq_decide]; omega
      · intro h
        have h8 : 8 ≤ l.length := by simpa using h
        exact ⟨h8, hrp (fun e => by rw [e] at h8; simp at h8)⟩
    case round =>
      obtain ⟨b, k, rfl, rfl, hk1, hkl, HB, hbw⟩ := hrel
      by_cases hlt : k < l.length
      · cases b with
        | false =>
          go_wp2_with fail
          go_quiet (fail)
          go_wp2_with fail
          exact ⟨⟨false, k + 1, rfl, by go_num, by omega, by omega, Lib.hid (fun h => by cases h), below_drewN hbw _⟩, by simp [intOf]; omega⟩
        | true =>
          obtain ⟨h8, hkr⟩ := HB.out rfl
          obtain ⟨bb, off, rfl, hbb, hcc⟩ := HU.out (fun e => by rw [e] at h8; simp at h8)
          have c0 := (hbw.cell (p := ⟨bb, off + 0, none⟩) hbb).trans (hcc 0 (by omega))
          have ck := (hbw.cell (p := ⟨bb, off + k, none⟩) hbb).trans (hcc k hlt)
          have HK := Lib.hid (HRS.out k hkr hlt)
          rw [← hhd, Nat.add_zero] at c0
          generalize l.getD k 0 = y at *
          generalize l.headD 0 = x at *
          have hlI : (0 : Int) < (l.length : Int) := by omega
          have hkI : (k : Int) < (l.length : Int) := by omega
          clear hcc hhd
          by_cases hq2 : y = x
          · have hk2 := (HK.out).1 hq2
            subst hq2
            go_wp2_with fail
            go_quiet (fail)
            go_wp2_with fail
            exact ⟨⟨true, k + 1, by simp, by go_num, by omega, by omega, Lib.hid (fun _ => ⟨h8, hk2⟩), below_drewN hbw _⟩, by simp [intOf]; omega⟩
          · have g5 : ((y : Int) == (x : Int)) = false := by rw [beq_eq_false_iff_ne]; omega
            go_wp2_with fail
            go_quiet (fail)
            go_wp2_with fail
            exact ⟨⟨false, k + 1, by simp, by go_num, by omega, by omega, Lib.hid (fun h => by cases h), below_drewN hbw _⟩, by simp [intOf]; omega⟩
      · cases b with
        | false =>
          go_wp2_with fail
          go_ret
          exact ⟨rfl, hbw⟩
        | true =>
          obtain ⟨h8, hkr⟩ := HB.out rfl
          have h10 := HONE.out h8 (by omega)
          have g6 : decide (t1.size ≤ 10) = true := by simp; omega
          go_wp2_with fail
          go_ret
          exact ⟨rfl, hbw⟩
end Go.Proofs.Ytjbnbgiphnnadaa
