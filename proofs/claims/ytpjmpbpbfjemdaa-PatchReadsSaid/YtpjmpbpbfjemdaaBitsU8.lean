/- The walk of hypostyleref.UnpackOf once more: its answer is the call's own. -/
import Derived.Test.YtpjmpbpbfjemdaaBitsTB
import Derived.Test.YtpjmpbpbfjemdaaPW0
namespace Go.Proofs.Ytpjmpbpbfjemdaa
open Go.RowKit
set_option linter.unusedVariables false

/-- a list that was answered is the call's own -/
def AllPostO (r : List Nat × Nat) (w : World) (e : Ending) (w' : World) : Prop :=
  ∃ a c, e = .returned (.tuple #[.slice a r.1.length c, .int .i64 r.2]) ∧ NumRow w.heap.size r.1 (.slice a r.1.length c) w' ∧ Below w.heap.size w w'

set_option maxHeartbeats 400000 in
set_option maxRecDepth 100000 in
theorem unpackOo_range (s : ByteArray) (many wide : Int) (w : World) (h : wide < 0 ∨ 64 < wide ∨ many < 0) :
    Calls Try.prog 60 #[.string s, .int .i64 many, .int .i64 wide] w (AllPostO ([], 3) w) := by
  by_cases h0 : wide < 0
  · have g1 : decide (wide < 0) = true := by simp; omega
    go_enter Try.func60, Try.ntmps60
    go_wp2_with fail
    go_ret2
    exact ⟨none, 0, rfl, nilRow _ _, Below.refl _ _⟩
  · have g1 : decide (wide < 0) = false := by simp; omega
    by_cases h1 : 64 < wide
    · have g2 : decide (64 < wide) = true := by simp; omega
      go_enter Try.func60, Try.ntmps60
      go_wp2_with fail
      go_ret2
      exact ⟨none, 0, rfl, nilRow _ _, Below.refl _ _⟩
    · have g2 : decide (64 < wide) = false := by simp; omega
      have g3 : decide (many < 0) = true := by simp; omega
      go_enter Try.func60, Try.ntmps60
      go_wp2_with fail
      go_ret2
      exact ⟨none, 0, rfl, nilRow _ _, Below.refl _ _⟩

set_option maxHeartbeats 400000 in
set_option maxRecDepth 100000 in
theorem unpackOo_many (s : ByteArray) (many : Int) (wide : Nat) (w : World) (h : wide ≤ 64) (hm : 64 < many) :
    Calls Try.prog 60 #[.string s, .int .i64 many, .int .i64 wide] w (AllPostO ([], 2) w) := by
  have g1 : decide ((wide : Int) < 0) = false := by simp
  have g2 : decide ((64 : Int) < (wide : Int)) = false := by simp; omega
  have g3 : decide (many < 0) = false := by simp; omega
  go_enter Try.func60, Try.ntmps60
  go_wp2_with fail
  go_ret2
  exact ⟨none, 0, rfl, nilRow _ _, Below.refl _ _⟩

set_option maxHeartbeats 1000000 in
set_option maxRecDepth 100000 in
theorem unpackOo_form (s : ByteArray) (many wide : Nat) (w : World) (h : wide ≤ 64) (hm : many ≤ 64) (hs : s.size ≤ maxLen) (hz : s.size ≠ B.sz (many * wide)) :
    Calls Try.prog 60 #[.string s, .int .i64 many, .int .i64 wide] w (AllPostO ([], 1) w) := by
  unfold maxLen at hs
  have g1 : decide ((wide : Int) < 0) = false := by simp
  have g2 : decide ((64 : Int) < (wide : Int)) = false := by simp; omega
  have g3 : decide ((many : Int) < 0) = false := by simp
  have hmul : many * wide ≤ 64 * 64 := Nat.mul_le_mul hm h
  have hmulI : ((many : Int) * (wide : Int)) = ((many * wide : Nat) : Int) := by simp
  generalize many * wide = M at *
  unfold B.sz at hz
  by_cases hM : M % 8 = 0
  · have g4 : ((s.size : Int) != (M : Int) / 8) = true := by rw [bne_iff_ne]; omega
    have g5 : ((M : Int) % 8 == 0) = true := by rw [beq_iff_eq]; omega
    clear hz
    go_enter Try.func60, Try.ntmps60
    go_wp2_with fail
    go_ret2
    exact ⟨none, 0, rfl, nilRow _ _, Below.refl _ _⟩
  · have g5 : ((M : Int) % 8 == 0) = false := by rw [beq_eq_false_iff_ne]; omega
    have g6 : ((s.size : Int) != (M : Int) / 8 + 1) = true := by rw [bne_iff_ne]; omega
    have g7 : ((M : Int) % 8 != 0) = true := by rw [bne_iff_ne]; omega
    by_cases hq : s.size = M / 8
    · have g4 : ((s.size : Int) != (M : Int) / 8) = false := by rw [bne_eq_false_iff_eq]; omega
      clear hz hq
      go_enter Try.func60, Try.ntmps60
      go_wp2_with fail
      go_ret2
      exact ⟨none, 0, rfl, nilRow _ _, Below.refl _ _⟩
    · have g4 : ((s.size : Int) != (M : Int) / 8) = true := by rw [bne_iff_ne]; omega
      clear hz hq
      go_enter Try.func60, Try.ntmps60
      go_wp2_with fail
      go_ret2
      exact ⟨none, 0, rfl, nilRow _ _, Below.refl _ _⟩

set_option maxHeartbeats 4000000 in
set_option maxRecDepth 100000 in
theorem unpackOo_in (s : ByteArray) (many wide : Nat) (w : World) (h : wide ≤ 64) (hm : many ≤ 64) (hz : s.size = B.sz (many * wide)) :
    Calls Try.prog 60 #[.string s, .int .i64 many, .int .i64 wide] w (AllPostO (if B.leN s.data.toList / 2 ^ (many * wide) = 0 then (B.dg wide many (B.leN s.data.toList), 0) else ([], 1)) w) := by
  obtain ⟨i0, hi, hz0, hz1, hz2⟩ := info_parts info_u64
  have g1 : decide ((wide : Int) < 0) = false := by simp
  have g2 : decide ((64 : Int) < (wide : Int)) = false := by simp; omega
  have g3 : decide ((many : Int) < 0) = false := by simp
  have hmul : many * wide ≤ 64 * 64 := Nat.mul_le_mul hm h
  have hmulI : ((many : Int) * (wide : Int)) = ((many * wide : Nat) : Int) := by simp
  have htb := fun p w hp hp2 => textBit_any s p w hp hp2
  have htop := top_bits s.data.toList (many * wide)
  rw [len_data] at htop
  generalize B.leN s.data.toList = T at *
  have HTB := Lib.hid htb
  have hbnd : many * wide ≤ 8 * s.size ∧ 8 * s.size < many * wide + 8 ∧ s.size ≤ 512 := by rw [hz]; unfold B.sz; omega
  have HTOP := Lib.hid (htop hbnd.1)
  have hmw := fun k (hk : k < many) => (show k * wide + wide ≤ many * wide by
    rw [show k * wide + wide = (k + 1) * wide by rw [Nat.add_mul, Nat.one_mul]]; exact Nat.mul_le_mul_right _ (by omega))
  have HMW := Lib.hid hmw
  generalize hM : many * wide = M at *
  have hres : ∃ r : List Nat × Nat, r = (if T / 2 ^ M = 0 then (B.dg wide many T, 0) else ([], 1)) := ⟨_, rfl⟩
  obtain ⟨r, hr⟩ := hres
  rw [← hr]
  have HR := Lib.hid hr
  clear htb htop hr hM hmw
  have hform : (((s.size : Int) != (M : Int) / 8) = false ∧ ((M : Int) % 8 == 0) = true ∧ ((s.size : Int) != (M : Int) / 8 + 1) = true ∧ ((M : Int) % 8 != 0) = false) ∨
      (((s.size : Int) != (M : Int) / 8) = true ∧ ((M : Int) % 8 == 0) = false ∧ ((s.size : Int) != (M : Int) / 8 + 1) = false ∧ ((M : Int) % 8 != 0) = true) := by
    unfold B.sz at hz
    simp only [bne_eq_false_iff_eq, bne_iff_ne, beq_iff_eq, beq_eq_false_iff_ne]
    omega
  clear hz
  rcases hform with ⟨g4, g5, g6, g7⟩ | ⟨g4, g5, g6, g7⟩
  all_goals
    go_enter Try.func60, Try.ntmps60
    go_wp2_with fail
    go_loop [6, 7, 9] (fun _ _ i => ∃ p : Nat, M ≤ p ∧ p ≤ 8 * s.size ∧ i = .int .i64 p ∧ Hid (T / 2 ^ M % 2 ^ (p - M) = 0)) (fun _ _ i => 8 * s.size - (intOf i).toNat)
    case atStart => exact ⟨M, Nat.le_refl _, hbnd.1, rfl, Lib.hid (by rw [Nat.sub_self]; simp [Nat.mod_one])⟩
    case round =>
      obtain ⟨p, hp1, hp2, rfl, HP⟩ := hrel
      by_cases hlt : p < 8 * s.size
      · have htb := fun w => HTB.out p w (by omega) (by omega)
        by_cases hbit : T / 2 ^ p % 2 = 1
        · have HZ := Lib.hid (HR.out.trans (if_neg (bit_one T M p hp1 hbit)))
          rw [hbit] at htb
          have HTB2 := Lib.hid htb
          clear htb hbit
          go_wp2_with fail
          refine (HTB2.out _).mono ?_
          rintro e w1 ⟨rfl, rfl⟩
          go_wp2_with fail
          go_ret2
          rw [HZ.out]
          exact ⟨none, 0, rfl, nilRow _ _, Below.refl _ _⟩
        · have hbit0 : T / 2 ^ p % 2 = 0 := by omega
          have HN := Lib.hid (low_step T M p hp1 HP.out hbit0)
          rw [hbit0] at htb
          have HTB2 := Lib.hid htb
          clear htb hbit hbit0
          go_wp2_with fail
          refine (HTB2.out _).mono ?_
          rintro e w1 ⟨rfl, rfl⟩
          go_wp2_with fail
          exact ⟨⟨p + 1, by omega, by omega, by go_num, HN⟩, by simp [intOf]; omega⟩
      · obtain rfl : p = 8 * s.size := by omega
        have HZ := Lib.hid (HR.out.trans (if_pos (HTOP.out.symm.trans HP.out)))
        clear HP hp1 hp2 hlt
        go_wp2_with fail
        go_loopw [10, 11, 12, 13] (fun v i _ _ wr => ∃ k : Nat, k ≤ many ∧ i = .int .i64 k ∧ NumRow w.heap.size (B.dg wide k T) v wr ∧ Below w.heap.size w wr) (fun _ i _ _ _ => many - (intOf i).toNat)
        case atStart => exact ⟨0, by omega, rfl, ⟨rfl, Or.inl ⟨rfl, rfl⟩⟩, Below.refl _ _⟩
        case round =>
          obtain ⟨k, hk, rfl, hrow, hbw⟩ := hrel
          by_cases hlt : k < many
          · have hkw := HMW.out k hlt
            have hkI : ((k : Int) * (wide : Int)) = ((k * wide : Nat) : Int) := by simp
            have HSN := Lib.hid (B.dg_snoc wide k T)
            rw [Nat.mul_comm wide k] at HSN
            have hln := B.dg_length wide k T
            generalize k * wide = f at *
            generalize B.dg wide k T = xs at *
            have HROW := Lib.hid hrow
            have HLN := Lib.hid hln
            clear hrow hln
            go_wp2_with fail
            go_loop [12, 13] (fun n j => ∃ t : Nat, t ≤ wide ∧ j = .int .i64 ((wide : Int) - 1 - (t : Int)) ∧ n = .int .u64 ((T / 2 ^ (f + wide - t) % 2 ^ t : Nat) : Int)) (fun _ j => (intOf j + 1).toNat)
            case atStart => exact ⟨0, by omega, by simp, by rw [bits_zero]; rfl⟩
            case round =>
              obtain ⟨t, ht, rfl, rfl⟩ := hrel
              by_cases htw : t < wide
              · have hst := bits_step2 T f wide t htw
                have hvb : T / 2 ^ (f + wide - t) % 2 ^ t * 2 + 1 < 18446744073709551616 := by
                  have h1 : T / 2 ^ (f + wide - t) % 2 ^ t < 2 ^ t := Nat.mod_lt _ (B.pos2 t)
                  have h2 : 2 ^ t ≤ 2 ^ 63 := Nat.pow_le_pow_right (by omega) (by omega)
                  omega
                have hkJ : ((f : Int) + ((wide : Int) - 1 - (t : Int))) = ((f + (wide - 1 - t) : Nat) : Int) := by omega
                have htb := fun w => HTB.out (f + (wide - 1 - t)) w (by omega) (by omega)
                generalize T / 2 ^ (f + wide - t) % 2 ^ t = n at *
                generalize hp : f + (wide - 1 - t) = p at *
                have hpb : p ≤ 8192 := by omega
                have hb2 : T / 2 ^ p % 2 < 2 := by omega
                generalize T / 2 ^ p % 2 = bt at *
                have HST := Lib.hid hst
                have HTB2 := Lib.hid htb
                clear hst htb hp
                go_wp2_with fail
                refine (HTB2.out _).mono ?_
                rintro e w1 ⟨rfl, rfl⟩
                go_wp2_with fail
                refine ⟨⟨t + 1, by omega, by congr 1; omega, ?_⟩, by simp [intOf]; omega⟩
                rw [HST.out]; congr 1
              · obtain rfl : t = wide := by omega
                rw [Nat.add_sub_cancel]
                generalize T / 2 ^ f % 2 ^ t = x at *
                have hxl : (xs.length + 1) * 8 ≤ 140737488355328 := by rw [HLN.out]; omega
                have hb5 : w.heap.size ≤ (wr.alloc (.cells #[.int .u64 (x : Int)] 23)).heap.size := by have := hbw.size; simp; omega
                go_wp2_with (at_builtin; refine wpList_append_one rfl (.tmp 85) (.tmp 87) rfl w.heap.size _ xs.length _ rfl (HROW.out.alloc _) wr.heap.size x rfl (World.cell?_alloc_new _ _ _ _) hxl hb5 ?_)
                intro v' w2 hown2 hgrow2
                go_wp2_with fail
                have hbw2 : Below w.heap.size w w2 := (hbw.alloc hbw.size _).grown hgrow2 (by have := hbw.size; simp; omega) (fun k hk => (HROW.out.lt k hk).1)
                refine ⟨⟨k + 1, by omega, by go_num, ?_, hbw2⟩, by simp [intOf]; omega⟩
                rw [HSN.out]; unfold NumRow; simpa [nv] using hown2
          · obtain rfl : k = many := by omega
            obtain ⟨a, c, rfl, _⟩ := numRow_nums hrow
            generalize B.dg wide k T = xs at *
            go_wp2_with fail
            go_ret2
            rw [HZ.out]
            exact ⟨a, c, rfl, hrow, hbw⟩

theorem unpackOo_any (s : ByteArray) (many wide : Int) (w : World) (hs : s.size ≤ maxLen) :
    Calls Try.prog 60 #[.string s, .int .i64 many, .int .i64 wide] w (AllPostO (unpR s.data.toList many wide) w) := by
  unfold unpR chkR
  by_cases h0 : wide < 0 ∨ 64 < wide ∨ many < 0
  · rw [if_pos h0, if_neg (by omega)]; exact unpackOo_range s many wide w h0
  obtain ⟨n, rfl⟩ : ∃ n : Nat, wide = n := ⟨wide.toNat, by omega⟩
  rw [if_neg h0]
  by_cases h1 : 64 < many
  · rw [if_pos h1, if_neg (by omega)]; exact unpackOo_many s many n w (by omega) h1
  obtain ⟨m, rfl⟩ : ∃ m : Nat, many = m := ⟨many.toNat, by omega⟩
  rw [if_neg h1, Int.toNat_natCast, Int.toNat_natCast]
  unfold chkF
  rw [len_data]
  by_cases h2 : s.size = B.sz (m * n)
  · have h := unpackOo_in s m n w (by omega) (by omega) h2
    by_cases h3 : B.leN s.data.toList / 2 ^ (m * n) = 0
    · rw [if_pos h3] at h
      have e : (if s.size ≠ B.sz (m * n) ∨ B.leN s.data.toList / 2 ^ (m * n) ≠ 0 then 1 else 0) = 0 := if_neg (by rintro (x | x); exact x h2; exact x h3)
      rw [e, if_pos rfl]; exact h
    · rw [if_neg h3] at h
      rw [if_pos (Or.inr h3), if_neg (by omega)]; exact h
  · rw [if_pos (Or.inl h2), if_neg (by omega)]
    exact unpackOo_form s m n w (by omega) (by omega) hs h2
end Go.Proofs.Ytpjmpbpbfjemdaa
