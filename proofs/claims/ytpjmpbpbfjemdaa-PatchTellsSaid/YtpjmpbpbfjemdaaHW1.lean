/- The walks of hybrid.row, hybrid.size, hybrid.loose, hybrid.fit, hybrid.packed. -/
import Derived.Test.YtpjmpbpbfjemdaaHPlain
import Derived.Test.YtpjmpbpbfjemdaaVaryW2
import Derived.Test.YtpjmpbpbfjemdaaBitsF
import Derived.Test.YtpjmpbpbfjemdaaOne
namespace Go.Proofs.Ytpjmpbpbfjemdaa
open Go.RowKit
set_option linter.unusedVariables false

set_option maxHeartbeats 400000 in
theorem row_some (b off c : Nat) (l : List Nat) (w : World) (hl : l.length ≤ maxLen) (h0 : l ≠ [])
    (hc : ∀ i, i < l.length → w.cell? ⟨b, off + i, none⟩ = some (.int .u64 ((l.getD i 0 : Nat) : Int))) :
    Calls Try.prog 82 #[.slice (some ⟨b, off, none⟩) l.length c] w fun e w' => e = .returned (.int .i64 (H.row l)) ∧ w = w' := by
  unfold maxLen at hl
  have hle := H.row_le l
  have hp : 0 < l.length := List.length_pos_iff.2 h0
  have hhd : l.headD 0 = l.getD 0 0 := by cases l <;> rfl
  have HS := Lib.hid (fun k hk hl => H.rowF_step (l.headD 0) l k hk hl)
  have ch := hc 0 hp
  rw [← hhd, Nat.add_zero] at ch
  have hrow : H.row l = H.rowF (l.headD 0) l := rfl
  have HC := Lib.hid hc
  rw [← hrow] at HS
  generalize H.row l = r at *
  generalize l.headD 0 = x at *
  clear hc hhd hrow h0
  go_enter Try.func82, Try.ntmps82
  go_wp2_with fail
  go_loop [3, 4, 7] (fun _ _ i => ∃ k : Nat, k ≤ r ∧ i = .int .i64 k) (fun _ _ i => l.length - (intOf i).toNat)
  case atStart => exact ⟨0, by omega, rfl⟩
  case round =>
    obtain ⟨k, hk, rfl⟩ := hrel
    by_cases hlt : k < l.length
    · have ck := HC.out k hlt
      have HK := Lib.hid (HS.out k hk hlt)
      generalize l.getD k 0 = y at *
      by_cases hq : y = x
      · subst hq
        go_wp2_with fail
        exact ⟨⟨k + 1, (HK.out).1 rfl, by go_num⟩, by simp [intOf]; omega⟩
      · have g1 : ((y : Int) != (x : Int)) = true := by rw [bne_iff_ne]; omega
        obtain rfl : r = k := (HK.out).2 hq
        go_wp2_with fail
        go_ret
        exact ⟨rfl, rfl⟩
    · obtain rfl : r = l.length := by omega
      obtain rfl : k = l.length := by omega
      go_wp2_with fail
      go_ret
      exact ⟨rfl, rfl⟩

set_option maxHeartbeats 400000 in
theorem row_nil (a : Option Addr) (c : Nat) (w : World) :
    Calls Try.prog 82 #[.slice a 0 c] w fun e w' => e = .returned (.int .i64 0) ∧ w = w' := by
  go_enter Try.func82, Try.ntmps82
  go_wp2_with fail
  refine wp_loop_rounds 1 ?_
  rw [rounds_succ]
  go_wp2_with fail
  go_ret
  exact ⟨rfl, rfl⟩

theorem row_any (a : Option Addr) (c : Nat) (l : List Nat) (w : World) (hl : l.length ≤ maxLen) (B' : Nat) (hu : Nums w B' a l) :
    Calls Try.prog 82 #[.slice a l.length c] w fun e w' => e = .returned (.int .i64 (H.row l)) ∧ w = w' := by
  by_cases hn : l = []
  · subst hn; exact row_nil a c w
  · obtain ⟨b, off, rfl, hb, hc⟩ := hu hn
    exact row_some b off c l w hl hn hc

set_option maxHeartbeats 400000 in
theorem hsize_any (n : Nat) (w : World) (hn : n ≤ 1048576) :
    Calls Try.prog 94 #[.int .i64 n] w fun e w' => e = .returned (.int .i64 (H.nb n)) ∧ w = w' := by
  go_enter Try.func94, Try.ntmps94
  go_wp2_with fail
  go_ret
  refine ⟨?_, rfl⟩
  show Ending.returned (Value.int .i64 _) = _
  congr 2
  unfold H.nb
  omega

/-- a cut of a slice's numbers -/
theorem Nums.drop {w : World} {B' b off : Nat} {l : List Nat} (h : Nums w B' (some ⟨b, off, none⟩) l) (k : Nat) : Nums w B' (some ⟨b, off + k, none⟩) (l.drop k) := by
  intro hl
  have hk : k < l.length := by
    rcases Nat.lt_or_ge k l.length with h | h
    · exact h
    · exact absurd (List.drop_eq_nil_of_le h) hl
  obtain ⟨b', off', e, hb, hc⟩ := h (by intro e; subst e; simp at hk)
  injection e with e
  injection e with e1 e2
  subst e1 e2
  refine ⟨b, off + k, rfl, hb, fun i hi => ?_⟩
  rw [List.length_drop] at hi
  have := hc (k + i) (by omega)
  rw [Nat.add_assoc, this]
  simp [List.getD, List.getElem?_drop]
theorem Nums.take {w : World} {B' : Nat} {a : Option Addr} {l : List Nat} (h : Nums w B' a l) (k : Nat) : Nums w B' a (l.take k) := by
  intro hl
  obtain ⟨b, off, e, hb, hc⟩ := h (by intro e; subst e; simp at hl)
  refine ⟨b, off, e, hb, fun i hi => ?_⟩
  rw [List.length_take] at hi
  rw [hc i (by omega)]
  simp [List.getD, List.getElem?_take_of_lt (show i < k by omega)]

set_option maxHeartbeats 1000000 in
theorem loose_some (b off c : Nat) (l : List Nat) (w : World) (hl : l.length ≤ 64) (hcap : l.length ≤ c) (hcm : c ≤ maxLen) (B' : Nat) (hu : Nums w B' (some ⟨b, off, none⟩) l) :
    Calls Try.prog 83 #[.slice (some ⟨b, off, none⟩) l.length c] w fun e w' => e = .returned (.int .i64 (H.loose l)) ∧ w = w' := by
  unfold maxLen at hcm
  have HU := Lib.hid hu
  clear hu
  go_enter Try.func83, Try.ntmps83
  go_wp2_with fail
  go_loop [3] (fun i => ∃ k : Nat, k ≤ l.length ∧ i = .int .i64 k ∧ Hid (H.loose l = k + H.loose (l.drop k))) (fun i => l.length - (intOf i).toNat)
  case atStart => exact ⟨0, by omega, rfl, Lib.hid (by simp)⟩
  case round =>
    obtain ⟨k, hk, rfl, HK⟩ := hrel
    by_cases hlt : k < l.length
    · have hr := fun c' => row_any (some ⟨b, off + k, none⟩) c' (l.drop k) w (by rw [List.length_drop]; unfold maxLen; omega) _ (HU.out.drop k)
      rw [List.length_drop] at hr
      have HST := Lib.hid (fun h => H.loose_stop (l.drop k) (Or.inr h))
      have HGO := Lib.hid (fun h => H.loose_go (l.drop k) (fun e => e.elim (fun e => by have := congrArg List.length e; rw [List.length_drop] at this; simp at this; omega) h))
      have HDD := Lib.hid (show (l.drop k).drop 8 = l.drop (k + 8) by rw [List.drop_drop])
      have hld : (l.drop k).length = l.length - k := List.length_drop
      generalize H.row (l.drop k) = r at *
      have HR := Lib.hid hr
      clear hr
      go_wp2_with fail
      refine (HR.out _).mono ?_
      rintro e w1 ⟨rfl, rfl⟩
      by_cases h8 : r < 8
      · have HG := Lib.hid (HGO.out (by omega))
        have hmn : min ((k : Int) + 8) (l.length : Int) = ((min (k + 8) l.length : Nat) : Int) := by omega
        go_wp2_with fail
        refine ⟨⟨min (k + 8) l.length, by omega, by go_num, Lib.hid ?_⟩, by simp [intOf]; omega⟩
        rw [HK.out, HG.out, hld, HDD.out]
        by_cases hm : k + 8 ≤ l.length
        · rw [Nat.min_eq_left hm, Nat.min_eq_left (by omega)]; omega
        · rw [Nat.min_eq_right (by omega), Nat.min_eq_right (by omega), List.drop_eq_nil_of_le (by omega), List.drop_length]; omega
      · have HSS := Lib.hid (HST.out (by omega))
        go_wp2_with fail
        go_ret
        exact ⟨by rw [HK.out, HSS.out]; rfl, rfl⟩
    · obtain rfl : k = l.length := by omega
      go_wp2_with fail
      go_ret
      refine ⟨?_, rfl⟩
      rw [HK.out, List.drop_length, H.loose_stop [] (Or.inl rfl)]; rfl
theorem loose_any (a : Option Addr) (c : Nat) (l : List Nat) (w : World) (hl : l.length ≤ 64) (hn : l ≠ []) (hcap : l.length ≤ c) (hcm : c ≤ maxLen) (B' : Nat) (hu : Nums w B' a l) :
    Calls Try.prog 83 #[.slice a l.length c] w fun e w' => e = .returned (.int .i64 (H.loose l)) ∧ w = w' := by
  obtain ⟨b, off, rfl, hb, hc⟩ := hu hn
  exact loose_some b off c l w hl hcap hcm B' hu

set_option maxHeartbeats 400000 in
theorem hfit_any (h left : Nat) (w : World) (hh : h < 18446744073709551616) (hl : left ≤ 64) :
    Calls Try.prog 92 #[.int .u64 h, .int .i64 left] w fun e w' => e = .returned (.int .i64 (H.fit h left)) ∧ w = w' := by
  have hw : ∀ k : Nat, k ≤ 64 → IntKind.u64.wrap (k : Int) = (k : Int) := fun k hk => by rw [IntKind.wrap_u64]; omega
  have hnb : H.nb left ≤ 64 := by unfold H.nb; omega
  have hwl := hw left hl
  have hwn := hw (H.nb left) hnb
  by_cases h1 : h % 2 = 1
  · have g1 : ((h : Int) % 2 == 1) = true := by rw [beq_iff_eq]; omega
    have HZ := Lib.hid (show H.fit h left = if h / 2 = 0 then 1 else if H.nb left < h / 2 then 2 else 0 by unfold H.fit; rw [if_pos h1])
    generalize H.fit h left = z at *
    go_enter Try.func92, Try.ntmps92
    go_wp2_with fail
    refine (hsize_any left _ (by omega)).mono ?_
    rintro e w1 ⟨rfl, rfl⟩
    generalize H.nb left = m at *
    by_cases h0 : h / 2 = 0
    · have g2 : ((h : Int) / 2 == 0) = true := by rw [beq_iff_eq]; omega
      go_wp2_with fail
      go_ret
      exact ⟨by rw [HZ.out, if_pos h0]; rfl, rfl⟩
    · have g2 : ((h : Int) / 2 == 0) = false := by rw [beq_eq_false_iff_ne]; omega
      by_cases h3 : m < h / 2
      · have g3 : decide ((m : Int) < (h : Int) / 2) = true := by simp; omega
        go_wp2_with fail
        go_ret
        exact ⟨by rw [HZ.out, if_neg h0, if_pos h3]; rfl, rfl⟩
      · have g3 : decide ((m : Int) < (h : Int) / 2) = false := by simp; omega
        go_wp2_with fail
        go_ret
        exact ⟨by rw [HZ.out, if_neg h0, if_neg h3]; rfl, rfl⟩
  · have g1 : ((h : Int) % 2 == 1) = false := by rw [beq_eq_false_iff_ne]; omega
    have HZ := Lib.hid (show H.fit h left = if h / 2 = 0 then 1 else if left < h / 2 then 2 else 0 by unfold H.fit; rw [if_neg h1])
    generalize H.fit h left = z at *
    go_enter Try.func92, Try.ntmps92
    by_cases h0 : h / 2 = 0
    · have g2 : ((h : Int) / 2 == 0) = true := by rw [beq_iff_eq]; omega
      go_wp2_with fail
      go_ret
      exact ⟨by rw [HZ.out, if_pos h0]; rfl, rfl⟩
    · have g2 : ((h : Int) / 2 == 0) = false := by rw [beq_eq_false_iff_ne]; omega
      by_cases h3 : left < h / 2
      · have g3 : decide ((left : Int) < (h : Int) / 2) = true := by simp; omega
        go_wp2_with fail
        go_ret
        exact ⟨by rw [HZ.out, if_neg h0, if_pos h3]; rfl, rfl⟩
      · have g3 : decide ((left : Int) < (h : Int) / 2) = false := by simp; omega
        go_wp2_with fail
        go_ret
        exact ⟨by rw [HZ.out, if_neg h0, if_neg h3]; rfl, rfl⟩

set_option maxHeartbeats 400000 in
theorem packed'_any (a : Option Addr) (c : Nat) (l : List Nat) (wide : Nat) (w : World) (hx : ∀ x ∈ l, x < 2 ^ wide) (hw : wide ≤ 64) (hl : l.length ≤ 64) (hu : Nums w w.heap.size a l) :
    Calls Try.prog 112 #[.slice a l.length c, .int .i64 wide] w (TextPost (H.pkd wide l) w) := by
  have h64 : ∀ x ∈ l, x < 18446744073709551616 := fun x hx' => Nat.lt_of_lt_of_le (hx x hx') (Nat.pow_le_pow_right (n := 2) (by omega) hw)
  have hp := pack_any a c l wide w h64 hu
  have e : packR l wide = (H.pkd wide l, 0) := by
    unfold packR
    rw [if_neg (by omega), if_neg (by omega), Int.toNat_natCast, if_neg (by have := (B.wd_le l wide).2 hx; omega)]; rfl
  rw [e] at hp
  generalize H.pkd wide l = r at *
  have HP := Lib.hid hp
  clear hp e hx h64
  go_enter Try.func112, Try.ntmps112
  go_wp2_with fail
  refine (HP.out).mono ?_
  rintro e w1 ⟨rfl, hb⟩
  go_wp2_with fail
  go_ret
  exact ⟨rfl, hb⟩
end Go.Proofs.Ytpjmpbpbfjemdaa
