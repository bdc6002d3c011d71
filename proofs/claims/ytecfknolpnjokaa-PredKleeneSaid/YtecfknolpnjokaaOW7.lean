/- The walks of pred.mayBeJoined, mayBeThere, mayBe. -/
import Derived.Test.YtecfknolpnjokaaOW3
import Derived.Test.YtecfknolpnjokaaOPlain2
import Derived.Test.YtecfknolpnjokaaQ3
namespace Go.Proofs.Ytecfknolpnjokaa
open Go.RowKit
set_option linter.unusedVariables false

theorem vb {P : Program} {f : FuncId} {args : Array Value} {w : World} {v : Value} (h : Calls P f args w (ValPost v w)) : Calls P f args w fun e w' => e = .returned v ∧ Below w.heap.size w w' := h.mono fun _ _ ⟨a, b⟩ => ⟨a, b ▸ Below.refl _ _⟩
theorem or8' : ∀ a b : Fin 8, bits .or .i64 ((a.val : Nat) : Int) ((b.val : Nat) : Int) = ((a.val ||| b.val : Nat) : Int) := by decide +kernel
theorem or8 {a b : Nat} (ha : a < 8) (hb : b < 8) : bits .or .i64 (a : Int) (b : Int) = ((a ||| b : Nat) : Int) := or8' ⟨a, ha⟩ ⟨b, hb⟩
theorem and8' : ∀ a : Fin 8, ∀ k : Fin 3, bits .and .i64 ((a.val : Nat) : Int) ((2 ^ k.val : Nat) : Int) = ((if O.has a.val k.val then 2 ^ k.val else 0 : Nat) : Int) := by decide +kernel
theorem and8 {a k : Nat} (ha : a < 8) (hk : k < 3) : bits .and .i64 (a : Int) ((2 ^ k : Nat) : Int) = ((if O.has a k then 2 ^ k else 0 : Nat) : Int) := and8' ⟨a, ha⟩ ⟨k, hk⟩
theorem only_at (t P : Nat) (h : t ≤ 2) (hP : P = 2 ^ t) (w : World) : Calls Try.prog 61 #[.int .i64 t] w (ValPost (.int .i64 (P : Nat)) w) := by subst hP; exact only_any t w h

set_option maxHeartbeats 2000000 in
set_option maxRecDepth 100000 in
theorem mayBeJoined_any (op : Int) (a b : Nat) (w : World) (ha : a < 8) (hb : b < 8) : Calls Try.prog 42 #[.int .i64 op, .int .i64 a, .int .i64 b] w (ValPost (.int .i64 (O.joS op a b : Nat)) w) := by
  have HS := Lib.hid (fun n => show O.mj op a b (n + 1) = if O.has a (n / 3) && O.has b (n % 3) then O.mj op a b n ||| 2 ^ O.jo op (n / 3) (n % 3) else O.mj op a b n from rfl)
  have HLT := Lib.hid (fun n h => O.mj_lt op a b n h)
  have HA := Lib.hid (fun k (h : k < 3) => and8 (a := a) ha h)
  have HB := Lib.hid (fun k (h : k < 3) => and8 (a := b) hb h)
  have HJ := Lib.hid (fun x y (hx : x ≤ 2) (hy : y ≤ 2) W => joined_any op x y W hx hy)
  have hz : O.mj op a b 0 = 0 := rfl
  have HEND := Lib.hid (show O.joS op a b = O.mj op a b 9 from rfl)
  generalize O.joS op a b = R at *
  generalize O.mj op a b = M at *
  have HZ := Lib.hid hz
  clear hz ha hb
  go_enter Try.func42, Try.ntmps42
  go_wp2_with fail
  go_loopw [7, 8, 9] (fun m x _ wr => ∃ k : Nat, k ≤ 3 ∧ x = .int .i64 k ∧ m = .int .i64 (M (3 * k) : Nat) ∧ wr = w) (fun _ x _ _ => 3 - (intOf x).toNat)
  case atStart => exact ⟨0, by omega, rfl, by rw [Nat.mul_zero, HZ.out]; rfl, rfl⟩
  case round =>
    obtain ⟨k, hk, rfl, rfl, rfl⟩ := hrel
    by_cases hlt : k < 3
    · have hkI : (k : Int) ≤ 2 := by omega
      obtain ⟨P, hP⟩ : ∃ P, P = 2 ^ k := ⟨_, rfl⟩
      have HPO := Lib.hid (fun W => only_at k P (by omega) hP W)
      have hand := HA.out k hlt
      rw [← hP] at hand
      have hPle : P ≤ 4 ∧ 1 ≤ P := by
        have : k = 0 ∨ k = 1 ∨ k = 2 := by omega
        rcases this with rfl | rfl | rfl <;> simp [hP]
      clear hP
      go_wp2_with fail
      go_loopw [7, 9] (fun m y wk => ∃ j : Nat, j ≤ 3 ∧ y = .int .i64 j ∧ m = .int .i64 (M (3 * k + j) : Nat) ∧ wk = wr) (fun _ y _ => 3 - (intOf y).toNat)
      case atStart => exact ⟨0, by omega, rfl, rfl, rfl⟩
      case round =>
        obtain ⟨j, hj, rfl, rfl, hwk⟩ := hrel
        subst hwk
        by_cases hlj : j < 3
        · have hjI : (j : Int) ≤ 2 := by omega
          obtain ⟨Q, hQ⟩ : ∃ Q, Q = 2 ^ j := ⟨_, rfl⟩
          have HQO := Lib.hid (fun W => only_at j Q (by omega) hQ W)
          have hbnd := HB.out j hlj
          rw [← hQ] at hbnd
          have hQle : Q ≤ 4 ∧ 1 ≤ Q := by
            have : j = 0 ∨ j = 1 ∨ j = 2 := by omega
            rcases this with rfl | rfl | rfl <;> simp [hQ]
          have hst := HS.out (3 * k + j)
          rw [show (3 * k + j) / 3 = k by omega, show (3 * k + j) % 3 = j by omega] at hst
          have hml := HLT.out (3 * k + j) (by omega)
          have HJJ := Lib.hid (fun W => HJ.out k j (by omega) (by omega) W)
          have hjl := O.jo_le op k j (by omega) (by omega)
          have HSU := Lib.hid (show M (3 * k + (j + 1)) = _ from hst)
          generalize O.jo op k j = r at *
          obtain ⟨T, hT⟩ : ∃ T, T = 2 ^ r := ⟨_, rfl⟩
          have HTO := Lib.hid (fun W => only_at r T hjl hT W)
          have hTle : T < 8 := by have := O.pow_le r hjl; omega
          rw [← hT] at HSU
          generalize M (3 * k + j) = acc at *
          have hor := or8 hml hTle
          clear hst hT hQ
          by_cases hha : O.has a k = true
          · rw [if_pos hha] at hand
            have g1 : ((P : Int) != 0) = true := by rw [bne_iff_ne]; omega
            by_cases hhb : O.has b j = true
            · rw [if_pos hhb] at hbnd
              have g2 : ((Q : Int) != 0) = true := by rw [bne_iff_ne]; omega
              have HN := Lib.hid (show M (3 * k + (j + 1)) = acc ||| T by rw [HSU.out, hha, hhb]; rfl)
              generalize (acc ||| T) = acc' at *
              clear hha hhb HSU
              go_wp2_with fail
              refine (HPO.out _).mono ?_
              rintro e w1 ⟨rfl, rfl⟩
              go_wp2_with fail
              refine (HQO.out _).mono ?_
              rintro e w1 ⟨rfl, rfl⟩
              go_wp2_with fail
              refine (HJJ.out _).mono ?_
              rintro e w1 ⟨rfl, rfl⟩
              go_wp2_with fail
              refine (HTO.out _).mono ?_
              rintro e w1 ⟨rfl, rfl⟩
              go_wp2_with fail
              exact ⟨⟨j + 1, by omega, by go_num, by rw [HN.out], by first | rfl | trivial⟩, by simp [intOf]; omega⟩
            · rw [if_neg hhb] at hbnd
              have HN := Lib.hid (show M (3 * k + (j + 1)) = acc by rw [HSU.out, show O.has b j = false by simpa using hhb, Bool.and_false]; rfl)
              clear hha hhb HSU
              go_wp2_with fail
              refine (HPO.out _).mono ?_
              rintro e w1 ⟨rfl, rfl⟩
              go_wp2_with fail
              refine (HQO.out _).mono ?_
              rintro e w1 ⟨rfl, rfl⟩
              go_wp2_with fail
              exact ⟨⟨j + 1, by omega, by go_num, by rw [HN.out], by first | rfl | trivial⟩, by simp [intOf]; omega⟩
          · rw [if_neg hha] at hand
            have HN := Lib.hid (show M (3 * k + (j + 1)) = acc by rw [HSU.out, show O.has a k = false by simpa using hha]; rfl)
            clear hha HSU
            go_wp2_with fail
            refine (HPO.out _).mono ?_
            rintro e w1 ⟨rfl, rfl⟩
            go_wp2_with fail
            exact ⟨⟨j + 1, by omega, by go_num, by rw [HN.out], by first | rfl | trivial⟩, by simp [intOf]; omega⟩
        · obtain rfl : j = 3 := by omega
          have h3 : 3 * k + 3 = 3 * (k + 1) := by omega
          rw [h3]
          go_wp2_with fail
          exact ⟨⟨k + 1, by omega, by go_num, rfl, by first | rfl | trivial⟩, by simp [intOf]; omega⟩
    · obtain rfl : k = 3 := by omega
      have HE := Lib.hid (show R = M (3 * 3) by rw [HEND.out])
      go_wp2_with fail
      go_ret
      exact ⟨by rw [HE.out]; rfl, rfl⟩
end Go.Proofs.Ytecfknolpnjokaa
