/- The walk of hypostyleref.HashOf. -/
import Derived.Test.YtbhggbohkddlaaaBlBase
import Derived.Test.YtbhggbohkddlaaaWB
import Derived.Laws.BitsAllLaws
import Derived.Test.YtbhggbohkddlaaaVaryPlain
import Derived.Test.YtbhggbohkddlaaaVBig
namespace Go.Proofs.Ytbhggbohkddlaaa
open Go.RowKit
set_option linter.unusedVariables false

/-- one byte of whatever number -/
theorem one_int (k : Int) (w : World) (h1 : -9223372036854775808 ≤ k) (h2 : k ≤ 9223372036854775807) :
    Calls Try.prog 22 #[.int .i64 k] w (TextPost [UInt8.ofNat (Bl.low k)] w) := by
  have hk := (Bl.low_cast k).symm
  have hlt := Bl.low_lt k
  generalize Bl.low k = n at *
  have ht := run_text1 w n
  have hn : ((n : Nat) : Int) % 256 = n := by omega
  rw [hn] at ht
  go_enter Try.func22, Try.ntmps22
  go_wp2_with fail
  go_ret
  exact ⟨rfl, (Below.refl _ _).alloc (Nat.le_refl _) _⟩

theorem xor_i64 (a b : Nat) (ha : a < 256) (hb : b < 256) : bits .xor .i64 (a : Int) (b : Int) = ((a ^^^ b : Nat) : Int) := by
  have hx : a ^^^ b < 2 ^ 8 := Nat.xor_lt_two_pow (by omega) (by omega)
  show IntKind.i64.wrap ((BitVec.ofInt 64 (a : Int) ^^^ BitVec.ofInt 64 (b : Int)).toNat : Int) = _
  rw [BitVec.toNat_xor, ofInt_u64 a (by omega), ofInt_u64 b (by omega)]
  generalize a ^^^ b = x at *
  exact IntWalk.i64_in _ (by omega)
theorem str_get (R : List UInt8) (j : Nat) (h : j < (str R).size) : (str R)[j].toNat = (R.map UInt8.toNat).getD j 0 := by
  have h' : j < R.length := by rw [← str_size R]; exact h
  simp only [List.getD, List.getElem?_map, List.getElem?_eq_getElem h', Option.map_some, Option.getD_some]
  rfl

def refText (k : Int) (n : Nat) (t : List UInt8) : List UInt8 := UInt8.ofNat (Bl.low k) :: (V.be 8 n ++ t)
theorem refText_bytes (k : Int) (n : Nat) (t : List UInt8) : (refText k n t).map UInt8.toNat = Bl.bytes ⟨k, n, t⟩ := by
  unfold refText Bl.bytes Bl.eight
  have := Bl.low_lt k
  simp [V.be]
  omega

set_option maxHeartbeats 4000000 in
set_option maxRecDepth 100000 in
theorem hashOf_any (c : C.Cl) (w : World) (hc : cOk c) (hm : c.txt.length + 16 ≤ maxLen) :
    Calls Try.prog 8 #[cag c] w (HashPost (Bl.hash c) w) := by
  obtain ⟨k, n, t⟩ := c
  obtain ⟨hk1, hk2, hn, _⟩ := hc
  simp only at hk1 hk2 hn hm
  unfold maxLen at hm
  have HO := Lib.hid (fun W => one_int k W hk1 hk2)
  have HB := Lib.hid (fun W => big_any n 8 W hn (by omega))
  have HH := Lib.hid (show Bl.hash ⟨k, n, t⟩ = Bl.stir 14695981039346656037 ((refText k n t).map UInt8.toNat) by rw [refText_bytes]; rfl)
  have HT := Lib.hid (show str (refText k n t) = str [UInt8.ofNat (Bl.low k)] ++ str (V.be 8 n) ++ str t by rw [str_append, str_append]; simp [refText])
  unfold cag
  have s1 : (str [UInt8.ofNat (Bl.low k)]).size = 1 := rfl
  have s2 : (str (V.be 8 n)).size = 8 := by rw [str_size, V.be_length]
  have s3 : (str t).size = t.length := str_size t
  obtain ⟨T1, hT1⟩ : ∃ T, T = str [UInt8.ofNat (Bl.low k)] := ⟨_, rfl⟩
  obtain ⟨T2, hT2⟩ : ∃ T, T = str (V.be 8 n) := ⟨_, rfl⟩
  unfold TextPost at HO HB
  rw [← hT1] at s1
  rw [← hT2] at s2
  rw [← hT1, ← hT2] at HT
  have HO := Lib.hid (fun W => by have := HO.out W; rw [← hT1] at this; exact this)
  have HB := Lib.hid (fun W => by have := HB.out W; rw [← hT2] at this; exact this)
  clear hT1 hT2
  have g4 : ¬ 9223372036854775807 < 9 + t.length := by omega
  go_enter Try.func8, Try.ntmps8
  go_wp2_with fail
  have t1 := tri_new w (.int .i64 k) (.int .u64 (n : Int)) (.string (str t))
  have hbw := (Below.refl w.heap.size w).alloc (Nat.le_refl _) (.cells #[.int .i64 k, .int .u64 (n : Int), .string (str t)] 26)
  generalize w.alloc (.cells #[.int .i64 k, .int .u64 (n : Int), .string (str t)] 26) = W at *
  have ht := t1.lt
  have f0 : ∀ p : WB W, p.w.cell? ⟨w.heap.size, 0, none⟩ = some (.int .i64 k) := fun p => p.cell ht t1.c0
  have f1 : ∀ p : WB W, p.w.cell? ⟨w.heap.size, 1, none⟩ = some (.int .u64 (n : Int)) := fun p => p.cell ht t1.c1
  have f2 : ∀ p : WB W, p.w.cell? ⟨w.heap.size, 2, none⟩ = some (.string (str t)) := fun p => p.cell ht t1.c2
  clear t1 ht
  generalize str t = T3 at *
  refine wp_region_wb (by kernel_rfl) (by kernel_rfl) ?_
  repeat (quiet_step (first
    | (go_at_call 22; exact calls_wb (HO.out _))
    | (go_at_call 23; exact calls_wb (HB.out _))))
  refine wpQuiet_nil ?_
  rintro _ ⟨p, rfl⟩
  have hp := below_then hbw p.below
  have hsz : (T1 ++ T2 ++ T3).size = ((refText k n t).map UInt8.toNat).length := by rw [← HT.out, str_size, List.length_map]
  have hlen : ((refText k n t).map UInt8.toNat).length ≤ t.length + 9 := by
    rw [List.length_map]; unfold refText; simp [V.be_length]; omega
  have HG := Lib.hid (show ∀ j (h : j < (T1 ++ T2 ++ T3).size), (T1 ++ T2 ++ T3)[j].toNat = ((refText k n t).map UInt8.toNat).getD j 0 by
    rw [← HT.out]; exact str_get _)
  have HLT := Lib.hid (show ∀ j, ((refText k n t).map UInt8.toNat).getD j 0 < 256 by
    intro j
    rw [List.getD, List.getElem?_map]
    cases (refText k n t)[j]? with
    | none => simp
    | some x => exact UInt8.toNat_lt x)
  have hfin := Lib.hid (HH.out)
  clear HT HH s1 s2 s3 f0 f1 f2 hbw
  generalize T1 ++ T2 ++ T3 = X at *
  generalize (refText k n t).map UInt8.toNat = R at *
  obtain ⟨W2, hW2⟩ : ∃ W2, W2 = p.w := ⟨_, rfl⟩
  rw [← hW2] at hp ⊢
  clear hW2 p
  have HSZ := Lib.hid hsz
  have hXs : X.size ≤ 9223372036854775800 := by omega
  clear hsz hlen
  go_wp2_with fail
  go_loop [4, 5, 6] (fun v i _ => ∃ j : Nat, j ≤ X.size ∧ i = .int .i64 j ∧ v = .int .u64 (Bl.stir 14695981039346656037 (R.take j) : Nat)) (fun _ i _ => X.size - (intOf i).toNat)
  case atStart => exact ⟨0, by omega, rfl, rfl⟩
  case round =>
    obtain ⟨j, hj, rfl, rfl⟩ := hrel
    by_cases hlt : j < X.size
    · have hjR : j < R.length := by rw [← HSZ.out]; exact hlt
      have hs := HG.out j hlt
      have hsb := HLT.out j
      have HS := Lib.hid (show Bl.stir 14695981039346656037 (R.take (j + 1)) = Bl.stp (Bl.stir 14695981039346656037 (R.take j)) (R.getD j 0) by
        have := stir_take id R 0 j 14695981039346656037 hjR
        rw [List.map_id, List.map_id] at this; exact this)
      have hq := Bl.stir_lt (R.take j) 14695981039346656037 (by omega)
      generalize Bl.stir 14695981039346656037 (R.take j) = q at *
      generalize R.getD j 0 = s at *
      have hlo : (q : Int) % 256 = ((q % 256 : Nat) : Int) := by omega
      have hlob : q % 256 < 256 := Nat.mod_lt _ (by omega)
      have hle : q % 256 ≤ q := Nat.mod_le _ _
      have hx := xor_i64 (q % 256) s hlob hsb
      have hxl := Bl.xor_low q s hsb
      have hxb : (q % 256 ^^^ s) < 256 := Nat.xor_lt_two_pow (n := 8) hlob hsb
      have hqx : (q ^^^ s) < 18446744073709551616 := Nat.xor_lt_two_pow (n := 64) hq (by omega)
      have hst := stp_cast q s
      generalize (q % 256 ^^^ s) = y at *
      generalize (q ^^^ s) = z at *
      generalize q % 256 = lo at *
      have hw1 : IntKind.u64.wrap ((q : Int) - (lo : Int)) = (q : Int) - lo := by rw [IntKind.wrap_u64]; omega
      have hw2 : IntKind.u64.wrap ((q : Int) - (lo : Int) + (y : Int)) = (z : Int) := by rw [IntKind.wrap_u64]; omega
      clear hxl hqx
      go_wp2_with fail
      exact ⟨⟨j + 1, by omega, by go_num, by rw [HS.out]⟩, by simp [intOf]; omega⟩
    · obtain rfl : j = X.size := by omega
      go_wp2_with fail
      go_ret
      refine ⟨?_, hp⟩
      have e : Bl.stir 14695981039346656037 (R.take X.size) = Bl.stir 14695981039346656037 R := by rw [HSZ.out, List.take_length]
      rw [hfin.out]
      exact congrArg (fun x : Nat => Ending.returned (Value.int .u64 (x : Int))) e
end Go.Proofs.Ytbhggbohkddlaaa
