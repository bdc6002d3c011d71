/- The walks of fixed.Write, fixed.Read. -/
import Derived.Test.YtcachhnhncodoaaGreatP10
namespace Go.Proofs.YtcachhnhncodoaaGreat
open Go.RowKit
set_option linter.unusedVariables false

theorem be_get : ∀ (k v j : Nat), j < k → (V.be k v)[j]? = some (UInt8.ofNat (v / 256 ^ (k - 1 - j)))
  | 0, v, j, h => absurd h (by omega)
  | k + 1, v, 0, h => by simp [V.be]
  | k + 1, v, j + 1, h => by
    rw [V.be, List.getElem?_cons_succ, be_get k v j (by omega)]
    congr 4; omega
theorem be_take (k v j : Nat) (h : j < k) : (V.be k v).take (j + 1) = (V.be k v).take j ++ [UInt8.ofNat (v / 256 ^ (k - 1 - j))] := by
  have hg := be_get k v j h
  have hl : j < (V.be k v).length := by rw [V.be_length]; exact h
  rw [List.take_succ_eq_append_getElem hl]
  rw [List.getElem?_eq_getElem hl] at hg
  rw [Option.some.inj hg]
theorem be_byte (n m : Nat) : (n : Int) / 2 ^ (8 * m) % 256 = ((UInt8.ofNat (n / 256 ^ m)).toNat : Int) := by
  have h1 : (256 : Nat) ^ m = 2 ^ (8 * m) := by rw [Nat.pow_mul]
  have h2 : (2 : Int) ^ (8 * m) = ((2 ^ (8 * m) : Nat) : Int) := by simp
  have h3 : (UInt8.ofNat (n / 256 ^ m)).toNat = n / 256 ^ m % 256 := by simp
  rw [h3, h2, h1]
  generalize 2 ^ (8 * m) = q
  omega

set_option maxHeartbeats 1000000 in
set_option maxRecDepth 100000 in
theorem fwrite8_any (n k : Nat) (w : World) (hn : n < 18446744073709551616) (hk : k ≤ 8) :
    Calls Tryz.prog 51 #[.int .u64 n, .int .i64 k] w (TextPost (V.be k n) w) := by
  have HT := Lib.hid (fun j h => be_take k n j h)
  have HLN := Lib.hid (V.be_length k n)
  go_enter Tryz.func51, Tryz.ntmps51
  go_wp2_with fail
  go_loopw [5, 6, 8] (fun v _ i wr => ∃ j : Nat, j ≤ k ∧ i = .int .i64 j ∧ BRow w.heap.size ((V.be k n).take j) v wr ∧ Below w.heap.size w wr) (fun _ _ i _ => k - (intOf i).toNat)
  case atStart => exact ⟨0, by omega, rfl, BRow.nil_ _ _, Below.refl _ _⟩
  case round =>
    obtain ⟨j, hj, rfl, hrow, hbw⟩ := hrel
    by_cases hlt : j < k
    · have HS := Lib.hid (HT.out j hlt)
      have hxl : ((V.be k n).take j).length + 1 ≤ 9 := by rw [List.length_take, HLN.out]; omega
      have HE := Lib.hid (be_byte n (k - 1 - j))
      generalize (V.be k n).take j = xs at *
      have HROW := Lib.hid hrow
      clear hrow
      go_wp2_with (at_builtin; refine wpList_append_oneb rfl (.tmp 11) (.tmp 20) rfl w.heap.size _ xs rfl (HROW.out.alloc_ _) wr.heap.size (UInt8.ofNat (n / 256 ^ (k - 1 - j))) rfl ?c1 ?c2 ?c3 ?_)
      case c1 => rw [World.cell?_alloc_new]; rw [← HE.out]; rfl
      case c2 => omega
      case c3 => have := hbw.size; simp; omega
      intro v' w2 hown2 hb2
      go_wp2_with fail
      refine ⟨⟨j + 1, by omega, by go_num, ?_, (hbw.alloc hbw.size _).trans hb2⟩, by simp [intOf]; omega⟩
      rw [HS.out]; exact hown2
    · obtain rfl : j = k := by omega
      rw [show (V.be j n).take j = V.be j n by rw [List.take_of_length_le (by rw [HLN.out]; omega)]] at hrow
      have htx := hrow.text
      go_wp2_with fail
      go_ret
      exact ⟨rfl, hbw⟩

set_option maxHeartbeats 1000000 in
set_option maxRecDepth 100000 in
theorem fread8_core (s : List UInt8) (S : ByteArray) (w : World) (hs : s.length ≤ 8) (hsz : S.size = s.length) (HB : Hid (∀ (i : Nat) (h : i < s.length) (h2 : i < S.size), S[i] = s[i])) :
    Calls Tryz.prog 56 #[.string S] w fun e w' => e = .returned (.int .u64 (V.val s : Nat)) ∧ w = w' := by
  have HV := Lib.hid (fun i (h : i < s.length) => show V.val (s.take (i + 1)) = V.val (s.take i) * 256 + s[i].toNat by
    rw [List.take_succ_eq_append_getElem h, V.val_snoc])
  have HL := Lib.hid (fun i => show V.val (s.take i) < 256 ^ (s.take i).length from V.val_lt _)
  have HE := Lib.hid (show V.val (s.take s.length) = V.val s by rw [List.take_length])
  go_enter Tryz.func56, Tryz.ntmps56
  go_wp2_with fail
  go_loopw [3, 4, 7] (fun v _ i wr => ∃ j : Nat, j ≤ s.length ∧ i = .int .i64 j ∧ v = .int .u64 (V.val (s.take j) : Nat) ∧ wr = w) (fun _ _ i _ => s.length - (intOf i).toNat)
  case atStart => exact ⟨0, by omega, rfl, rfl, rfl⟩
  case round =>
    obtain ⟨j, hj, rfl, rfl, rfl⟩ := hrel
    by_cases hlt : j < s.length
    · have hlS : j < S.size := by omega
      have HS := Lib.hid (HV.out j hlt)
      have hbnd : V.val (s.take j) < 256 ^ 7 := Nat.lt_of_lt_of_le (HL.out j) (Nat.pow_le_pow_right (by omega) (by rw [List.length_take]; omega))
      have hbx := HB.out j hlt hlS
      have hx := UInt8.toNat_lt s[j]
      generalize s[j] = x at *
      generalize V.val (s.take j) = v at *
      have hor := or_256 v x.toNat (by omega) hx
      go_wp2_with fail
      exact ⟨⟨j + 1, by omega, by go_num, by rw [HS.out]; simp, trivial⟩, by simp [intOf]; omega⟩
    · obtain rfl : j = s.length := by omega
      rw [HE.out]
      go_wp2_with fail
      go_ret
      exact ⟨rfl, rfl⟩
theorem fread8_any (s : List UInt8) (w : World) (hs : s.length ≤ 8) :
    Calls Tryz.prog 56 #[.string (str s)] w fun e w' => e = .returned (.int .u64 (V.val s : Nat)) ∧ w = w' :=
  fread8_core s (str s) w hs (str_size s) (Lib.hid fun i h h2 => rfl)
end Go.Proofs.YtcachhnhncodoaaGreat
