/- VaryRead, VaryW2, HW1, BitsX6, HR1, HPlain2, HPlain3, VaryR5, VaryR6, BitsU2, HR2, DPlain, UBlk, DW1, DW2, HW2. -/
import Derived.WalkKit
import Derived.RangeFuncBox
import Derived.Deep.DrawnRows
import Derived.Test.YtcachhnhncodoaaGreatP1
namespace Go.Proofs.YtcachhnhncodoaaGreat
open Go.RowKit
set_option linter.unusedVariables false
theorem alen : Tryz.prog.arrayLen 68 = 9 := by kernel_rfl
theorem aunder : Tryz.prog.underlying 68 = some (.array (Tryz.prog.arrayLen 68) (Tryz.prog.elem 68)) := by kernel_rfl
theorem asize (w : World) : (sizeOf (Tryz.prog.elem 68)).run Tryz.prog w = .ok 1 w := by kernel_rfl
theorem run_cut9 (b : Nat) (w : World) (k : Nat) (hk : k ≤ 9) :
    (Instr.sliceAt 68 (.pointer (some ⟨b, 0, none⟩)) none (some (.int .i64 (k : Int))) none).run Tryz.prog w = .ok (.slice (some ⟨b, 0, none⟩) k 9) w := by
  rw [run_sliceAt_array_h w 68 ⟨b, 0, none⟩ aunder .i64 _ (by omega) (by rw [alen]; omega), asize, alen]
  simp [Result.andThen, slicedAt, Addr.add]
theorem run_text9 (w : World) (c0 c1 c2 c3 c4 c5 c6 c7 c8 k : Nat) (l : List UInt8) (hl : [c0, c1, c2, c3, c4, c5, c6, c7, c8].take k = l.map (·.toNat)) (hk : k ≤ 9) :
    (convert 42 9 (.slice (some ⟨w.heap.size, 0, none⟩) k 9)).run Tryz.prog (w.alloc (.cells #[.int .u8 c0, .int .u8 c1, .int .u8 c2, .int .u8 c3, .int .u8 c4, .int .u8 c5, .int .u8 c6, .int .u8 c7, .int .u8 c8] 68)) =
      .ok (.string (str l)) (w.alloc (.cells #[.int .u8 c0, .int .u8 c1, .int .u8 c2, .int .u8 c3, .int .u8 c4, .int .u8 c5, .int .u8 c6, .int .u8 c7, .int .u8 c8] 68)) := by
  have hlen : l.length = k := by
    have := congrArg List.length hl
    simp only [List.length_take, List.length_cons, List.length_nil, List.length_map] at this; omega
  rw [← str_of l]
  refine run_convert_bytes_arg _ 42 5 Tryz.underlying42 Tryz.underlying5 _ 0 k 9 _ (by simpa using hlen) ?_ 9 Tryz.underlying9
  intro i hi
  rw [Nat.zero_add, World.cell?_alloc_new]
  have e : (l.map fun b => (b.toNat : Int)).getD i 0 = (([c0, c1, c2, c3, c4, c5, c6, c7, c8].getD i 0 : Nat) : Int) := by
    have h1 : ([c0, c1, c2, c3, c4, c5, c6, c7, c8].take k)[i]? = (l.map (·.toNat))[i]? := by rw [hl]
    rw [List.getElem?_take_of_lt hi] at h1
    simp only [List.getD, h1]
    simp [List.getElem?_eq_getElem (show i < l.length by omega)]
  rw [e]
  have : i = 0 ∨ i = 1 ∨ i = 2 ∨ i = 3 ∨ i = 4 ∨ i = 5 ∨ i = 6 ∨ i = 7 ∨ i = 8 := by omega
  rcases this with rfl | rfl | rfl | rfl | rfl | rfl | rfl | rfl | rfl <;> rfl
def ReadPost (r : Nat × Nat × Nat) (w : World) (e : Ending) (w' : World) : Prop := e = .returned (.tuple #[.int .u64 r.1, .int .i64 r.2.1, .int .i64 r.2.2]) ∧ Below w.heap.size w w'
set_option maxHeartbeats 400000 in
theorem read_empty (s : ByteArray) (w : World) (h : s.toList.isEmpty = true) :
    Calls Tryz.prog 55 #[.string s] w (ReadPost (0, 0, 5) w) := by
  go_enter Tryz.func55, Tryz.ntmps55
  go_wp2_with fail
  go_ret3
  exact ⟨rfl, Below.refl _ _⟩
theorem xor_max (c : Nat) (hc : c < 256) : bits .xor .u8 IntKind.u8.max (c : Int) = ((255 - c : Nat) : Int) := by
  have e : (IntKind.u8.max : Int) = ((255 : Nat) : Int) := rfl
  rw [e, u8_xor_nat 255 c (by omega) hc]
  have : ∀ d : Fin 256, 255 ^^^ d.val = 255 - d.val := by decide +kernel
  rw [this ⟨c, hc⟩]
theorem lz_kl (c : Nat) (hc : c < 256) : (8 - (Lib.bitLen (255 - c) : Int)) + 1 = (V.kl c : Int) := by
  have : ∀ d : Fin 256, (8 - (Lib.bitLen (255 - d.val) : Int)) + 1 = (V.kl d.val : Int) := by decide +kernel
  exact this ⟨c, hc⟩
theorem lz_any (c : Nat) (hc : c < 256) (w : World) :
    Calls Tryz.prog 80 #[.int .u8 (bits .xor .u8 IntKind.u8.max (c : Int))] w fun e w' => e = .returned (.int .i64 ((V.kl c : Int) - 1)) ∧ w = w' := by
  rw [xor_max c hc]
  refine (Tryz.bits_LeadingZeros8 _ w (by omega) (by omega)).mono ?_
  rintro e w' ⟨rfl, rfl⟩
  have := lz_kl c hc
  simp only [Int.toNat_natCast, and_true]
  congr 2
  omega
theorem andNot_ld (k c : Nat) (h1 : 1 ≤ k) (h9 : k ≤ 9) (hc : c < 256) (hl : V.ld k ≤ c) : bits .andNot .u8 (c : Int) (V.ld k : Int) = ((c - V.ld k : Nat) : Int) := by
  have hl2 : V.ld k < 256 := by
    rcases nine h1 h9 with rfl | rfl | rfl | rfl | rfl | rfl | rfl | rfl | rfl <;> decide
  rw [u8_andNot_nat _ _ hc hl2]
  have : ∀ (j : Fin 10) (d : Fin 256), V.ld j.val ≤ d.val → 1 ≤ j.val → d.val &&& (255 - V.ld j.val) = d.val - V.ld j.val := by decide +kernel
  rw [this ⟨k, by omega⟩ ⟨c, hc⟩ hl h1]
def acc (c k : Nat) (t : List UInt8) (j : Nat) : Nat := (c - V.ld k) * 256 ^ j + V.val (t.take j)
theorem acc_step (c k : Nat) (t : List UInt8) (j : Nat) (x : UInt8) (hx : t[j]? = some x) : acc c k t (j + 1) = acc c k t j * 256 + x.toNat := by
  have hj : j < t.length := by
    rcases Nat.lt_or_ge j t.length with h | h
    · exact h
    · rw [List.getElem?_eq_none h] at hx; simp at hx
  have e : t.take (j + 1) = t.take j ++ [x] := by
    rw [List.take_succ_eq_append_getElem hj]; rw [List.getElem?_eq_getElem hj] at hx; simp only [Option.some.injEq] at hx; rw [hx]
  unfold acc
  rw [e, V.val_snoc, Nat.pow_succ, Nat.add_mul, Nat.mul_assoc, Nat.add_assoc]
theorem acc_lt (c k : Nat) (t : List UInt8) (j : Nat) (hj : j + 1 < k) (hb : (c - V.ld k + 1) * 256 ^ (k - 1) ≤ 18446744073709551616) : acc c k t j * 256 < 18446744073709551616 := by
  have hv := V.val_lt (t.take j)
  have hv2 : V.val (t.take j) < 256 ^ j := Nat.lt_of_lt_of_le hv (Nat.pow_le_pow_right (by omega) (by rw [List.length_take]; omega))
  have h1 : acc c k t j < (c - V.ld k + 1) * 256 ^ j := by unfold acc; rw [Nat.add_mul, Nat.one_mul]; omega
  have h2 : 256 ^ (j + 1) ≤ 256 ^ (k - 1) := Nat.pow_le_pow_right (by omega) (by omega)
  have h3 : (c - V.ld k + 1) * 256 ^ (j + 1) ≤ (c - V.ld k + 1) * 256 ^ (k - 1) := Nat.mul_le_mul_left _ h2
  rw [Nat.pow_succ, ← Nat.mul_assoc] at h3
  omega
theorem or_256 (a b : Nat) (ha : a * 256 < 18446744073709551616) (hb : b < 256) : bits .or .u64 ((a : Int) * 256) (b : Int) = ((a * 256 + b : Nat) : Int) := by
  have e : ((a : Int) * 256) = ((a * 256 : Nat) : Int) := by simp
  rw [e, bits_or_u64_nat _ _ ha (by omega)]
  have := Nat.two_pow_add_eq_or_of_lt (i := 8) (b := b) (by omega) a
  rw [Nat.mul_comm, show (256 : Nat) = 2 ^ 8 from rfl, ← this]
theorem rd_short (s : ByteArray) (h0 : 0 < s.size) (h : s.size < V.kl s[0].toNat) : V.rd s.data.toList = (0, 0, 5) := by
  obtain ⟨l, hl⟩ := head_cons s h0
  have hsz : (s[0] :: l).length = s.size := by rw [← hl]; exact len_data s
  rw [hl]
  simp only [V.rd]
  rw [if_pos (by omega)]
theorem rd_long (s : ByteArray) (h0 : 0 < s.size) (h : V.kl s[0].toNat ≤ s.size) :
    acc s[0].toNat (V.kl s[0].toNat) (s.data.toList.drop 1) (V.kl s[0].toNat - 1) < 18446744073709551616 ∧
    V.rd s.data.toList = if V.sz (acc s[0].toNat (V.kl s[0].toNat) (s.data.toList.drop 1) (V.kl s[0].toNat - 1)) < V.kl s[0].toNat then (0, 0, 1)
      else (acc s[0].toNat (V.kl s[0].toNat) (s.data.toList.drop 1) (V.kl s[0].toNat - 1), V.kl s[0].toNat, 0) := by
  obtain ⟨l, hl⟩ := head_cons s h0
  have hsz : (s[0] :: l).length = s.size := by rw [← hl]; exact len_data s
  rw [hl]
  obtain ⟨f1, f2, f3, f4⟩ := V.rd_facts s[0] l (by omega)
  simp only [V.rd, List.drop_succ_cons, List.drop_zero, acc]
  rw [if_neg (by omega), ← f2]
  exact ⟨f3, rfl⟩
set_option maxHeartbeats 400000 in
theorem read_any (s : ByteArray) (w : World) (hs : s.size ≤ maxLen) (h0 : 0 < s.size) (h : s.toList.isEmpty = false) :
    Calls Tryz.prog 55 #[.string s] w (ReadPost (V.rd s.data.toList) w) := by
  unfold maxLen at hs
  have hc := s[0].toNat_lt
  obtain ⟨k1, k9, kld, kb, _⟩ := V.kl_bounds s[0].toNat hc
  have hand := andNot_ld _ _ k1 k9 hc kld
  have hlz := fun w => lz_any s[0].toNat hc w
  have hrd := fun x => rd_short s h0 x
  have hrl := fun x => rd_long s h0 x
  generalize hk : V.kl s[0].toNat = k at *
  have HRD := Lib.hid hrd
  have HRL := Lib.hid hrl
  have HLZ := Lib.hid hlz
  have KB := Lib.hid kb
  clear hrd hrl hlz hk kb
  go_enter Tryz.func55, Tryz.ntmps55
  go_wp2_with fail
  refine (HLZ.out _).mono ?_
  rintro e w' ⟨rfl, rfl⟩
  by_cases hlen : s.size < k
  · go_wp2_with fail
    go_ret3
    exact ⟨by rw [HRD.out hlen]; rfl, Below.refl _ _⟩
  · go_wp2_with fail
    go_quiet ((go_at_call 71; exact Calls.quiet_same (lead_any _ _ k1 k9)))
    go_wp2_with fail
    go_loop [6, 7, 27] (fun r _ i => ∃ j : Nat, j ≤ k - 1 ∧ i = .int .i64 j ∧ r = .int .u64 (acc s[0].toNat k (s.data.toList.drop 1) j)) (fun _ _ i => k - (intOf i).toNat)
    case atStart => exact ⟨0, by omega, rfl, by simp [acc, V.val]⟩
    case round =>
      obtain ⟨j, hj, rfl, rfl⟩ := hrel
      by_cases hlt : j < k - 1
      · have hsz : j + 1 < s.size := by omega
        have HA := Lib.hid (acc_step s[0].toNat k (s.data.toList.drop 1) j _ (byte_at s j hsz))
        have hal := acc_lt s[0].toNat k (s.data.toList.drop 1) j (by omega) KB.out
        have hor := or_256 _ _ hal s[j + 1].toNat_lt
        generalize acc s[0].toNat k (s.data.toList.drop 1) j = A at *
        have hw8 : IntKind.u64.wrap (s[j + 1].toNat : Int) = (s[j + 1].toNat : Int) := by
          have := s[j + 1].toNat_lt
          rw [IntKind.wrap_u64]; omega
        go_wp2_with fail
        refine ⟨⟨j + 1, by omega, by go_num, by rw [HA.out]; simp⟩, by simp [intOf]; omega⟩
      · obtain rfl : j = k - 1 := by omega
        obtain ⟨hal, hrd⟩ := HRL.out (by omega)
        have HR := Lib.hid hrd
        clear hrd
        generalize acc s[0].toNat k (s.data.toList.drop 1) (k - 1) = A at *
        go_wp2_with fail
        refine (size_any A _ hal).mono ?_
        rintro e w' ⟨rfl, rfl⟩
        by_cases hz : V.sz A < k
        · go_wp2_with fail
          go_ret3
          exact ⟨by rw [HR.out, if_pos hz]; rfl, below_drewN (Below.refl _ _) _⟩
        · go_wp2_with fail
          go_ret3
          exact ⟨by rw [HR.out, if_neg hz]; rfl, below_drewN (Below.refl _ _) _⟩
end Go.Proofs.YtcachhnhncodoaaGreat
namespace Go.Proofs.YtcachhnhncodoaaGreat
open Go.RowKit
set_option linter.unusedVariables false
def WritePost (n : Nat) (w : World) (e : Ending) (w' : World) : Prop := e = .returned (.string (str (V.enc n))) ∧ Below w.heap.size w w'
set_option maxHeartbeats 400000 in
theorem write_any (n : Nat) (w : World) (hn : n < 18446744073709551616) :
    Calls Tryz.prog 50 #[.int .u64 n] w (WritePost n w) := by
  have h1 := V.sz_ge n
  have h9 := V.sz_le n
  have hsl := fun b w => run_cut9 b w (V.sz n) h9
  go_enter Tryz.func50, Tryz.ntmps50
  go_wp2_with fail
  refine (spell_any n _ hn).mono ?_
  rintro e w' ⟨c0, c1, c2, c3, c4, c5, c6, c7, c8, rfl, hl, hb⟩
  have htx := run_text9 w' c0 c1 c2 c3 c4 c5 c6 c7 c8 (V.sz n) (V.enc n) hl h9
  clear hl
  go_wp2_with fail
  go_ret
  exact ⟨rfl, hb.alloc hb.size _⟩
end Go.Proofs.YtcachhnhncodoaaGreat
namespace Go.Proofs.YtcachhnhncodoaaGreat
open Go.RowKit
set_option linter.unusedVariables false
set_option maxHeartbeats 400000 in
theorem row_some (b off c : Nat) (l : List Nat) (w : World) (hl : l.length ≤ maxLen) (h0 : l ≠ [])
    (hc : ∀ i, i < l.length → w.cell? ⟨b, off + i, none⟩ = some (.int .u64 ((l.getD i 0 : Nat) : Int))) :
    Calls Tryz.prog 185 #[.slice (some ⟨b, off, none⟩) l.length c] w fun e w' => e = .returned (.int .i64 (H.row l)) ∧ w = w' := by
  unfold maxLen at hl
  have hle := H.row_le l
  have hp : 0 < l.length := List.length_pos_iff.2 h0
  have hhd : l.headD 0 = l.getD 0 0 := by cases l <;> rfl
  have HS := Lib.hid (fun k hk hl => H.rowF_step (l.headD 0) l k hk hl)
  have ch := hc 0 hp
  rw [← hhd, Nat.add_zero] at ch
  have hrow : H.row l = H.rowF (l.headD 0) l := rfl
  have HC := Lib.hid hc
  rw [← hrow] at HS
  generalize H.row l = r at *
  generalize l.headD 0 = x at *
  clear hc hhd hrow h0
  go_enter Tryz.func185, Tryz.ntmps185
  go_wp2_with fail
  go_loop [3, 4, 7] (fun _ _ i => ∃ k : Nat, k ≤ r ∧ i = .int .i64 k) (fun _ _ i => l.length - (intOf i).toNat)
  case atStart => exact ⟨0, by omega, rfl⟩
  case round =>
    obtain ⟨k, hk, rfl⟩ := hrel
    by_cases hlt : k < l.length
    · have ck := HC.out k hlt
      have HK := Lib.hid (HS.out k hk hlt)
      generalize l.getD k 0 = y at *
      by_cases hq : y = x
      · subst hq
        go_wp2_with fail
        exact ⟨⟨k + 1, (HK.out).1 rfl, by go_num⟩, by simp [intOf]; omega⟩
      · have g1 : ((y : Int) != (x : Int)) = true := by rw [bne_iff_ne]; omega
        obtain rfl : r = k := (HK.out).2 hq
        go_wp2_with fail
        go_ret
        exact ⟨rfl, rfl⟩
    · obtain rfl : r = l.length := by omega
      obtain rfl : k = l.length := by omega
      go_wp2_with fail
      go_ret
      exact ⟨rfl, rfl⟩
set_option maxHeartbeats 400000 in
theorem row_nil (a : Option Addr) (c : Nat) (w : World) :
    Calls Tryz.prog 185 #[.slice a 0 c] w fun e w' => e = .returned (.int .i64 0) ∧ w = w' := by
  go_enter Tryz.func185, Tryz.ntmps185
  go_wp2_with fail
  refine wp_loop_rounds 1 ?_
  rw [rounds_succ]
  go_wp2_with fail
  go_ret
  exact ⟨rfl, rfl⟩
theorem row_any (a : Option Addr) (c : Nat) (l : List Nat) (w : World) (hl : l.length ≤ maxLen) (B' : Nat) (hu : Nums w B' a l) :
    Calls Tryz.prog 185 #[.slice a l.length c] w fun e w' => e = .returned (.int .i64 (H.row l)) ∧ w = w' := by
  by_cases hn : l = []
  · subst hn; exact row_nil a c w
  · obtain ⟨b, off, rfl, hb, hc⟩ := hu hn
    exact row_some b off c l w hl hn hc
set_option maxHeartbeats 400000 in
theorem hsize_any (n : Nat) (w : World) (hn : n ≤ 1048576) :
    Calls Tryz.prog 206 #[.int .i64 n] w fun e w' => e = .returned (.int .i64 (H.nb n)) ∧ w = w' := by
  go_enter Tryz.func206, Tryz.ntmps206
  go_wp2_with fail
  go_ret
  refine ⟨?_, rfl⟩
  show Ending.returned (Value.int .i64 _) = _
  congr 2
  unfold H.nb
  omega
theorem Nums.drop {w : World} {B' b off : Nat} {l : List Nat} (h : Nums w B' (some ⟨b, off, none⟩) l) (k : Nat) : Nums w B' (some ⟨b, off + k, none⟩) (l.drop k) := by
  intro hl
  have hk : k < l.length := by
    rcases Nat.lt_or_ge k l.length with h | h
    · exact h
    · exact absurd (List.drop_eq_nil_of_le h) hl
  obtain ⟨b', off', e, hb, hc⟩ := h (by intro e; subst e; simp at hk)
  injection e with e
  injection e with e1 e2
  subst e1 e2
  refine ⟨b, off + k, rfl, hb, fun i hi => ?_⟩
  rw [List.length_drop] at hi
  have := hc (k + i) (by omega)
  rw [Nat.add_assoc, this]
  simp [List.getD, List.getElem?_drop]
theorem Nums.take {w : World} {B' : Nat} {a : Option Addr} {l : List Nat} (h : Nums w B' a l) (k : Nat) : Nums w B' a (l.take k) := by
  intro hl
  obtain ⟨b, off, e, hb, hc⟩ := h (by intro e; subst e; simp at hl)
  refine ⟨b, off, e, hb, fun i hi => ?_⟩
  rw [List.length_take] at hi
  rw [hc i (by omega)]
  simp [List.getD, List.getElem?_take_of_lt (show i < k by omega)]
set_option maxHeartbeats 1000000 in
theorem loose_some (b off c : Nat) (l : List Nat) (w : World) (hl : l.length ≤ 64) (hcap : l.length ≤ c) (hcm : c ≤ maxLen) (B' : Nat) (hu : Nums w B' (some ⟨b, off, none⟩) l) :
    Calls Tryz.prog 186 #[.slice (some ⟨b, off, none⟩) l.length c] w fun e w' => e = .returned (.int .i64 (H.loose l)) ∧ w = w' := by
  unfold maxLen at hcm
  have HU := Lib.hid hu
  clear hu
  go_enter Tryz.func186, Tryz.ntmps186
  go_wp2_with fail
  go_loop [3] (fun i => ∃ k : Nat, k ≤ l.length ∧ i = .int .i64 k ∧ Hid (H.loose l = k + H.loose (l.drop k))) (fun i => l.length - (intOf i).toNat)
  case atStart => exact ⟨0, by omega, rfl, Lib.hid (by simp)⟩
  case round =>
    obtain ⟨k, hk, rfl, HK⟩ := hrel
    by_cases hlt : k < l.length
    · have hr := fun c' => row_any (some ⟨b, off + k, none⟩) c' (l.drop k) w (by rw [List.length_drop]; unfold maxLen; omega) _ (HU.out.drop k)
      rw [List.length_drop] at hr
      have HST := Lib.hid (fun h => H.loose_stop (l.drop k) (Or.inr h))
      have HGO := Lib.hid (fun h => H.loose_go (l.drop k) (fun e => e.elim (fun e => by have := congrArg List.length e; rw [List.length_drop] at this; simp at this; omega) h))
      have HDD := Lib.hid (show (l.drop k).drop 8 = l.drop (k + 8) by rw [List.drop_drop])
      have hld : (l.drop k).length = l.length - k := List.length_drop
      generalize H.row (l.drop k) = r at *
      have HR := Lib.hid hr
      clear hr
      go_wp2_with fail
      refine (HR.out _).mono ?_
      rintro e w1 ⟨rfl, rfl⟩
      by_cases h8 : r < 8
      · have HG := Lib.hid (HGO.out (by omega))
        have hmn : min ((k : Int) + 8) (l.length : Int) = ((min (k + 8) l.length : Nat) : Int) := by omega
        go_wp2_with fail
        refine ⟨⟨min (k + 8) l.length, by omega, by go_num, Lib.hid ?_⟩, by simp [intOf]; omega⟩
        rw [HK.out, HG.out, hld, HDD.out]
        by_cases hm : k + 8 ≤ l.length
        · rw [Nat.min_eq_left hm, Nat.min_eq_left (by omega)]; omega
        · rw [Nat.min_eq_right (by omega), Nat.min_eq_right (by omega), List.drop_eq_nil_of_le (by omega), List.drop_length]; omega
      · have HSS := Lib.hid (HST.out (by omega))
        go_wp2_with fail
        go_ret
        exact ⟨by rw [HK.out, HSS.out]; rfl, rfl⟩
    · obtain rfl : k = l.length := by omega
      go_wp2_with fail
      go_ret
      refine ⟨?_, rfl⟩
      rw [HK.out, List.drop_length, H.loose_stop [] (Or.inl rfl)]; rfl
theorem loose_any (a : Option Addr) (c : Nat) (l : List Nat) (w : World) (hl : l.length ≤ 64) (hn : l ≠ []) (hcap : l.length ≤ c) (hcm : c ≤ maxLen) (B' : Nat) (hu : Nums w B' a l) :
    Calls Tryz.prog 186 #[.slice a l.length c] w fun e w' => e = .returned (.int .i64 (H.loose l)) ∧ w = w' := by
  obtain ⟨b, off, rfl, hb, hc⟩ := hu hn
  exact loose_some b off c l w hl hcap hcm B' hu
set_option maxHeartbeats 400000 in
theorem hfit_any (h left : Nat) (w : World) (hh : h < 18446744073709551616) (hl : left ≤ 64) :
    Calls Tryz.prog 194 #[.int .u64 h, .int .i64 left] w fun e w' => e = .returned (.int .i64 (H.fit h left)) ∧ w = w' := by
  have hw : ∀ k : Nat, k ≤ 64 → IntKind.u64.wrap (k : Int) = (k : Int) := fun k hk => by rw [IntKind.wrap_u64]; omega
  have hnb : H.nb left ≤ 64 := by unfold H.nb; omega
  have hwl := hw left hl
  have hwn := hw (H.nb left) hnb
  by_cases h1 : h % 2 = 1
  · have g1 : ((h : Int) % 2 == 1) = true := by rw [beq_iff_eq]; omega
    have HZ := Lib.hid (show H.fit h left = if h / 2 = 0 then 1 else if H.nb left < h / 2 then 2 else 0 by unfold H.fit; rw [if_pos h1])
    generalize H.fit h left = z at *
    go_enter Tryz.func194, Tryz.ntmps194
    go_wp2_with fail
    refine (hsize_any left _ (by omega)).mono ?_
    rintro e w1 ⟨rfl, rfl⟩
    generalize H.nb left = m at *
    by_cases h0 : h / 2 = 0
    · have g2 : ((h : Int) / 2 == 0) = true := by rw [beq_iff_eq]; omega
      go_wp2_with fail
      go_ret
      exact ⟨by rw [HZ.out, if_pos h0]; rfl, rfl⟩
    · have g2 : ((h : Int) / 2 == 0) = false := by rw [beq_eq_false_iff_ne]; omega
      by_cases h3 : m < h / 2
      · have g3 : decide ((m : Int) < (h : Int) / 2) = true := by simp; omega
        go_wp2_with fail
        go_ret
        exact ⟨by rw [HZ.out, if_neg h0, if_pos h3]; rfl, rfl⟩
      · have g3 : decide ((m : Int) < (h : Int) / 2) = false := by simp; omega
        go_wp2_with fail
        go_ret
        exact ⟨by rw [HZ.out, if_neg h0, if_neg h3]; rfl, rfl⟩
  · have g1 : ((h : Int) % 2 == 1) = false := by rw [beq_eq_false_iff_ne]; omega
    have HZ := Lib.hid (show H.fit h left = if h / 2 = 0 then 1 else if left < h / 2 then 2 else 0 by unfold H.fit; rw [if_neg h1])
    generalize H.fit h left = z at *
    go_enter Tryz.func194, Tryz.ntmps194
    by_cases h0 : h / 2 = 0
    · have g2 : ((h : Int) / 2 == 0) = true := by rw [beq_iff_eq]; omega
      go_wp2_with fail
      go_ret
      exact ⟨by rw [HZ.out, if_pos h0]; rfl, rfl⟩
    · have g2 : ((h : Int) / 2 == 0) = false := by rw [beq_eq_false_iff_ne]; omega
      by_cases h3 : left < h / 2
      · have g3 : decide ((left : Int) < (h : Int) / 2) = true := by simp; omega
        go_wp2_with fail
        go_ret
        exact ⟨by rw [HZ.out, if_neg h0, if_pos h3]; rfl, rfl⟩
      · have g3 : decide ((left : Int) < (h : Int) / 2) = false := by simp; omega
        go_wp2_with fail
        go_ret
        exact ⟨by rw [HZ.out, if_neg h0, if_neg h3]; rfl, rfl⟩
set_option maxHeartbeats 400000 in
theorem packed'_any (a : Option Addr) (c : Nat) (l : List Nat) (wide : Nat) (w : World) (hx : ∀ x ∈ l, x < 2 ^ wide) (hw : wide ≤ 64) (hl : l.length ≤ 64) (hu : Nums w w.heap.size a l) :
    Calls Tryz.prog 244 #[.slice a l.length c, .int .i64 wide] w (TextPost (H.pkd wide l) w) := by
  have h64 : ∀ x ∈ l, x < 18446744073709551616 := fun x hx' => Nat.lt_of_lt_of_le (hx x hx') (Nat.pow_le_pow_right (n := 2) (by omega) hw)
  have hp := pack_any a c l wide w h64 hu
  have e : packR l wide = (H.pkd wide l, 0) := by
    unfold packR
    rw [if_neg (by omega), if_neg (by omega), Int.toNat_natCast, if_neg (by have := (B.wd_le l wide).2 hx; omega)]; rfl
  rw [e] at hp
  generalize H.pkd wide l = r at *
  have HP := Lib.hid hp
  clear hp e hx h64
  go_enter Tryz.func244, Tryz.ntmps244
  go_wp2_with fail
  refine (HP.out).mono ?_
  rintro e w1 ⟨rfl, hb⟩
  go_wp2_with fail
  go_ret
  exact ⟨rfl, hb⟩
end Go.Proofs.YtcachhnhncodoaaGreat
namespace Go.Proofs.YtcachhnhncodoaaGreat
open Go.RowKit
set_option linter.unusedVariables false
set_option maxHeartbeats 400000 in
theorem bitOfL_any (b off c : Nat) (l : List Nat) (n p : Nat) (w : World) (hl : l.length ≤ 1048640) (hn : 1 ≤ n) (hn2 : n ≤ 64) (hp : p < l.length * n) (hx : ∀ x ∈ l, x < 18446744073709551616)
    (h1 : ∀ i, i < l.length → w.cell? ⟨b, off + i, none⟩ = some (.int .u64 ((l.getD i 0 : Nat) : Int))) :
    Calls Tryz.prog 67 #[.slice (some ⟨b, off, none⟩) l.length c, .int .i64 n, .int .i64 p] w fun e w' => e = .returned (.int .i64 ((l.getD (p / n) 0 / 2 ^ (p % n) % 2 : Nat) : Int)) ∧ w = w' := by
  have hi : p / n < l.length := by rw [Nat.div_lt_iff_lt_mul (by omega)]; exact hp
  have hcell := h1 _ hi
  have hxk := hx _ (getD_mem l _ hi)
  have hpb : p < 67112960 := Nat.lt_of_lt_of_le hp (Nat.mul_le_mul hl hn2)
  have hpI : ((p : Int) / (n : Int)) = ((p / n : Nat) : Int) := by simp
  have hpM : ((p : Int) % (n : Int)) = ((p % n : Nat) : Int) := by simp
  have hq : p % n < n := Nat.mod_lt _ (by omega)
  clear h1 hx hp
  generalize p / n = q at *
  generalize l.getD q 0 = x at *
  generalize p % n = r at *
  generalize hres : x / 2 ^ r % 2 = res
  have HRES := Lib.hid hres
  clear hres
  go_enter Tryz.func67, Tryz.ntmps67
  go_wp2_with fail
  go_loop [7, 8] (fun v i => ∃ j : Nat, j ≤ r ∧ i = .int .i64 j ∧ v = .int .u64 ((x / 2 ^ j : Nat) : Int)) (fun _ i => r - (intOf i).toNat)
  case atStart => exact ⟨0, by omega, rfl, by simp⟩
  case round =>
    obtain ⟨j, hj, rfl, rfl⟩ := hrel
    have hle : x / 2 ^ j ≤ x := Nat.div_le_self _ _
    by_cases hlt : j < r
    · have HD := Lib.hid (show x / 2 ^ (j + 1) = x / 2 ^ j / 2 by rw [Nat.pow_succ, Nat.div_div_eq_div_mul])
      generalize x / 2 ^ j = y at *
      go_wp2_with fail
      exact ⟨⟨j + 1, by omega, by go_num, by rw [HD.out]; simp⟩, by simp [intOf]; omega⟩
    · obtain rfl : j = r := by omega
      generalize x / 2 ^ j = y at *
      go_wp2_with fail
      go_ret
      refine ⟨?_, rfl⟩
      show Ending.returned (Value.int .i64 _) = _
      congr 2
      rw [← HRES.out]; simp
set_option maxHeartbeats 4000000 in
set_option maxRecDepth 100000 in
theorem packedL_some (b off c : Nat) (l : List Nat) (n : Nat) (w : World) (hl : l.length ≤ 1048640) (hn : 1 ≤ n) (hn2 : n ≤ 64) (hf : ∀ x ∈ l, x < 2 ^ n) (hx : ∀ x ∈ l, x < 18446744073709551616) (hb : b < w.heap.size)
    (h1 : ∀ i, i < l.length → w.cell? ⟨b, off + i, none⟩ = some (.int .u64 ((l.getD i 0 : Nat) : Int))) :
    Calls Tryz.prog 35 #[.slice (some ⟨b, off, none⟩) l.length c, .int .i64 n] w (TextPost (B.le (B.sz (l.length * n)) (B.pk n l)) w) := by
  have hlt := B.pk_lt n l hf
  rw [Nat.mul_comm] at hlt
  have hbit := fun p hp => B.pk_bit n l hf p (by omega) hp
  generalize B.pk n l = X at *
  have hmul := Nat.mul_le_mul hl hn2
  have hmulI : ((l.length : Int) * (n : Int)) = ((l.length * n : Nat) : Int) := by simp
  have hbo := fun p w hp h1 => bitOfL_any b off c l n p w hl hn hn2 hp hx h1
  generalize hM : l.length * n = M at *
  have HLT := Lib.hid hlt
  have HBIT := Lib.hid hbit
  have HBO := Lib.hid hbo
  have H1 := Lib.hid h1
  clear hlt hbit hbo h1 hx hf hM
  go_enter Tryz.func35, Tryz.ntmps35
  go_wp2_with fail
  go_loopw [5, 7, 8, 9] (fun s i _ _ wr => ∃ q : Nat, q ≤ B.sz M ∧ i = .int .i64 ((8 * q : Nat) : Int) ∧ s = .string (str (B.le q X)) ∧ Below w.heap.size w wr) (fun _ i _ _ _ => M + 8 - (intOf i).toNat)
  case atStart => exact ⟨0, by omega, rfl, rfl, Below.refl _ _⟩
  case round =>
    obtain ⟨q, hq, rfl, rfl, hbw⟩ := hrel
    have hsz : B.sz M ≤ 8389121 ∧ 8 * B.sz M < M + 8 ∧ M ≤ 8 * B.sz M := by unfold B.sz; omega
    by_cases hlt : 8 * q < M
    · have hts : (str (B.le q X)).size ≤ 8389121 := by rw [str_size, B.le_length]; omega
      obtain ⟨t, ht⟩ : ∃ t, t = str (B.le q X) := ⟨_, rfl⟩
      rw [← ht] at hts ⊢
      have HT := Lib.hid ht
      clear ht
      obtain ⟨f, hf⟩ : ∃ f, f = 8 * q := ⟨_, rfl⟩
      rw [← hf] at hlt ⊢
      have HF := Lib.hid hf
      have hfb : f ≤ 67112968 := by omega
      clear hf
      go_wp2_with fail
      go_loop [8, 9] (fun v k => ∃ s : Nat, s ≤ 8 ∧ k = .int .i64 (7 - (s : Int)) ∧ v = .int .i64 ((X / 2 ^ (8 * q + 8 - s) % 2 ^ s : Nat) : Int)) (fun _ k => (intOf k + 1).toNat)
      case atStart => exact ⟨0, by omega, rfl, by rw [bits_zero]; rfl⟩
      case round =>
        obtain ⟨s, hs, rfl, rfl⟩ := hrel
        by_cases hs8 : s < 8
        · have hst := bits_step X q s hs8
          have hvb : X / 2 ^ (8 * q + 8 - s) % 2 ^ s < 256 := Nat.lt_of_lt_of_le (Nat.mod_lt _ (B.pos2 s)) (by have : 2 ^ s ≤ 2 ^ 8 := Nat.pow_le_pow_right (by omega) hs; omega)
          have hkI : ((f : Int) + (7 - (s : Int))) = ((f + (7 - s) : Nat) : Int) := by omega
          rw [show 8 * q + (7 - s) = f + (7 - s) by rw [HF.out]] at hst
          generalize X / 2 ^ (8 * q + 8 - s) % 2 ^ s = v at *
          have HST := Lib.hid hst
          clear hst
          generalize hp : f + (7 - s) = p at *
          have hpb : p ≤ 67113000 := by omega
          clear hp
          by_cases hpM : p < M
          · have hbo := fun w h => HBO.out p w hpM h
            rw [← HBIT.out p hpM] at hbo
            have hb2 : X / 2 ^ p % 2 < 2 := by omega
            generalize X / 2 ^ p % 2 = bt at *
            have hcl := fun i hi => (hbw.cell (p := ⟨b, off + i, none⟩) hb).trans (H1.out i hi)
            have HB2 := Lib.hid (hbo wr hcl)
            clear hbo hcl
            go_wp2_with fail
            refine (HB2.out).mono ?_
            rintro e w1 ⟨rfl, rfl⟩
            go_wp2_with fail
            refine ⟨⟨s + 1, by omega, by congr 1; omega, ?_⟩, by simp [intOf]; omega⟩
            rw [HST.out]; congr 1; omega
          · have HZ := Lib.hid (show X / 2 ^ p % 2 = 0 by
              rw [Nat.div_eq_of_lt (Nat.lt_of_lt_of_le HLT.out (Nat.pow_le_pow_right (by omega) (by omega)))])
            go_wp2_with fail
            refine ⟨⟨s + 1, by omega, by congr 1; omega, ?_⟩, by simp [intOf]; omega⟩
            rw [HST.out, HZ.out]; congr 1; omega
        · obtain rfl : s = 8 := by omega
          have hbyte := byte_of X q
          generalize X / 2 ^ (8 * q + 8 - 8) % 2 ^ 8 = y at *
          have hy : y < 256 := by omega
          have HSN := Lib.hid (show B.le (q + 1) X = B.le q X ++ [UInt8.ofNat y] by
            rw [le_snoc]; congr 2; apply UInt8.toNat_inj.mp; simp only [UInt8.toNat_ofNat']; rw [hbyte]; omega)
          clear hbyte
          have hs1 : (str [UInt8.ofNat y]).size = 1 := rfl
          go_wp2_with fail
          refine (one_any y _ (by omega)).mono ?_
          rintro e w1 ⟨rfl, hb1⟩
          go_wp2_with fail
          refine ⟨⟨q + 1, by have := HF.out; omega, ?_, ?_, below_then hbw hb1⟩, by simp [intOf]; omega⟩
          · rw [HF.out]; congr 1 <;> omega
          · rw [HT.out, str_append, HSN.out]
    · obtain rfl : q = B.sz M := by unfold B.sz at hq ⊢; omega
      go_wp2_with fail
      go_ret
      exact ⟨rfl, hbw⟩
set_option maxHeartbeats 400000 in
theorem packedL_zero (a : Option Addr) (c k n : Nat) (w : World) (hk : k ≤ 1048640) (hn : n ≤ 64) (h : k * n = 0) :
    Calls Tryz.prog 35 #[.slice a k c, .int .i64 n] w (TextPost [] w) := by
  have hmulI : ((k : Int) * (n : Int)) = ((k * n : Nat) : Int) := by simp
  rw [h] at hmulI
  clear h
  go_enter Tryz.func35, Tryz.ntmps35
  go_wp2_with fail
  refine wp_loop_rounds 1 ?_
  rw [rounds_succ]
  go_wp2_with fail
  go_ret
  exact ⟨rfl, Below.refl _ _⟩
theorem packedL_any (a : Option Addr) (c : Nat) (l : List Nat) (n : Nat) (w : World) (hl : l.length ≤ 1048640) (hn2 : n ≤ 64) (hf : ∀ x ∈ l, x < 2 ^ n) (hx : ∀ x ∈ l, x < 18446744073709551616) (hu : Nums w w.heap.size a l) :
    Calls Tryz.prog 35 #[.slice a l.length c, .int .i64 n] w (TextPost (B.le (B.sz (l.length * n)) (B.pk n l)) w) := by
  by_cases h : l.length * n = 0
  · rw [h]; exact packedL_zero a c _ n w hl hn2 h
  · have hn : 1 ≤ n := by
      rcases Nat.eq_zero_or_pos n with h0 | h0
      · rw [h0] at h; simp at h
      · exact h0
    have hne : l ≠ [] := by intro e; rw [e] at h; simp at h
    obtain ⟨b, off, rfl, hb, hc⟩ := hu hne
    exact packedL_some b off c l n w hl hn hn2 hf hx hb hc
end Go.Proofs.YtcachhnhncodoaaGreat
namespace Go.Proofs.YtcachhnhncodoaaGreat
open Go.RowKit
set_option linter.unusedVariables false
set_option maxHeartbeats 1000000 in
theorem sameFrom_any (b off c : Nat) (l : List Nat) (p : Nat) (w : World) (hl : l.length ≤ 1048576) (hp : p < l.length)
    (hc : ∀ i, i < l.length → w.cell? ⟨b, off + i, none⟩ = some (.int .u64 ((l.getD i 0 : Nat) : Int))) :
    Calls Tryz.prog 128 #[.slice (some ⟨b, off, none⟩) l.length c, .int .i64 p] w fun e w' => e = .returned (.int .i64 (H.row (l.drop p))) ∧ Below w.heap.size w w' := by
  have hne : l.drop p ≠ [] := fun e => by have := congrArg List.length e; rw [List.length_drop] at this; simp at this; omega
  have hld : (l.drop p).length = l.length - p := List.length_drop
  have hle := H.row_le (l.drop p)
  rw [hld] at hle
  have hhd : (l.drop p).headD 0 = l.getD p 0 := by
    rw [List.drop_eq_getElem_cons hp]; simp [List.getD, List.getElem?_eq_getElem hp]
  have hget : ∀ k, (l.drop p).getD k 0 = l.getD (p + k) 0 := fun k => by simp [List.getD, List.getElem?_drop]
  have HS := Lib.hid (fun k hk hl => H.rowF_step ((l.drop p).headD 0) (l.drop p) k hk hl)
  have ch := hc p hp
  rw [← hhd] at ch
  have hrow : H.row (l.drop p) = H.rowF ((l.drop p).headD 0) (l.drop p) := rfl
  rw [← hrow] at HS
  have HC := Lib.hid hc
  have HG := Lib.hid hget
  have HLD := Lib.hid hld
  generalize H.row (l.drop p) = r at *
  generalize (l.drop p).headD 0 = x at *
  clear hc hhd hrow hget hld hne
  have hpI : (p : Int) < (l.length : Int) := by omega
  go_enter Tryz.func128, Tryz.ntmps128
  go_wp2_with fail
  go_loopw [5] (fun i wr => ∃ k : Nat, k ≤ r ∧ i = .int .i64 k ∧ (∃ m, wr = w.drewN m)) (fun i _ => l.length - (intOf i).toNat)
  case atStart => exact ⟨0, by omega, rfl, 0, rfl⟩
  case round =>
    obtain ⟨k, hk, rfl, m, rfl⟩ := hrel
    have hsum : ((p : Int) + (k : Int)) = ((p + k : Nat) : Int) := by omega
    have hwr : IntKind.i64.wrap ((p + k : Nat) : Int) = ((p + k : Nat) : Int) := by rw [IntKind.wrap_i64]; omega
    by_cases hlt : p + k < l.length
    · have ck := HC.out (p + k) hlt
      have HK := Lib.hid (HS.out k hk (by rw [HLD.out]; omega))
      have hg := HG.out k
      rw [hg] at HK
      have hI : ((p + k : Nat) : Int) < (l.length : Int) := by omega
      have hkn := (HK.out).2
      have hky := (HK.out).1
      generalize l.getD (p + k) 0 = y at *
      obtain ⟨q, hq⟩ : ∃ q, q = p + k := ⟨_, rfl⟩
      rw [← hq] at hsum hwr ck hI hlt
      have hq0 : (0 : Int) ≤ (q : Int) := by omega
      clear hg HK hq
      by_cases hyx : y = x
      · have hk1 := hky hyx
        subst hyx
        clear hky hkn
        go_wp2_with fail
        go_quiet (fail)
        go_wp2_with fail
        exact ⟨⟨k + 1, hk1, by go_num, ⟨_, rfl⟩⟩, by simp [intOf]; omega⟩
      · have g1 : ((y : Int) == (x : Int)) = false := by rw [beq_eq_false_iff_ne]; omega
        obtain rfl : r = k := hkn hyx
        clear hky hkn
        go_wp2_with fail
        go_quiet (fail)
        go_wp2_with fail
        go_ret
        exact ⟨rfl, below_drewN (below_drewN (Below.refl _ _) _) _⟩
    · obtain rfl : k = r := by omega
      obtain ⟨q, hq⟩ : ∃ q, q = p + k := ⟨_, rfl⟩
      rw [← hq] at hsum hwr hlt
      have g1 : decide ((q : Int) < (l.length : Int)) = false := by simp; omega
      clear hq
      go_wp2_with fail
      go_quiet (fail)
      go_wp2_with fail
      go_ret
      exact ⟨rfl, below_drewN (below_drewN (Below.refl _ _) _) _⟩
end Go.Proofs.YtcachhnhncodoaaGreat
namespace Go.Proofs.YtcachhnhncodoaaGreat.H
set_option linter.unusedVariables false
theorem sz8 (m : Nat) : 8 * B.sz m ≤ m + 7 := by unfold B.sz; omega
theorem vsz1 (n : Nat) (h : n < 128) : V.sz n = 1 := by
  have := V.sz_spec n; omega
theorem vsz2 (n : Nat) (h : n < 16384) : V.sz n ≤ 2 := by
  have := V.sz_spec n; omega
theorem bytes_bound (w : Nat) : ∀ l : List Nat, l.length ≤ 64 → 8 * (bytes w l).length ≤ l.length * w + l.length + 7 * w + 7 := by
  refine parts_ind (fun l => l.length ≤ 64 → 8 * (bytes w l).length ≤ l.length * w + l.length + 7 * w + 7) ?_ ?_ ?_
  · intro _; simp [bytes_nil]
  · intro l h0 h8 ih hl
    have hr := row_le l
    have := ih (by rw [List.length_drop]; omega)
    rw [bytes_run w l h0 h8, List.length_append]
    simp only [Part.bytes, List.length_append, V.enc_length, pkd_length, List.length_cons, List.length_nil, Nat.zero_add, Nat.one_mul]
    rw [List.length_drop] at this
    have hs := sz8 w
    have hm : (l.length - row l) * w + row l * w = l.length * w := by rw [← Nat.add_mul]; congr 1; omega
    have h8w : 8 * w ≤ row l * w := Nat.mul_le_mul_right _ h8
    have hs2 : 8 * B.sz w ≤ 8 * w := by unfold B.sz; omega
    by_cases h64 : row l < 64
    · have := vsz1 (2 * row l) (by omega); omega
    · have := vsz2 (2 * row l) (by omega); omega
  · intro l h0 h8 ih hl
    have hr := loose_le l
    have hp := loose_pos l (fun e => e.elim h0 h8)
    have := ih (by rw [List.length_drop]; omega)
    rw [bytes_blk w l h0 h8, List.length_append]
    simp only [Part.bytes, List.length_append, V.enc_length, pkd_length, pad_length, List.length_take, Nat.min_eq_left hr]
    rw [List.length_drop] at this
    have hnb : nb (loose l) * 8 < 128 ∧ loose l ≤ nb (loose l) * 8 ∧ nb (loose l) * 8 ≤ loose l + 7 := by unfold nb; omega
    have hv := vsz1 (2 * nb (loose l) + 1) (by omega)
    have hsz : 8 * B.sz (nb (loose l) * 8 * w) = nb (loose l) * 8 * w := by
      rw [Nat.mul_assoc, Nat.mul_left_comm]; unfold B.sz; omega
    rcases loose_full l with hf | hf
    · have e : nb (loose l) * 8 = loose l := by unfold nb; omega
      rw [e] at hsz ⊢
      have hm : (l.length - loose l) * w + loose l * w = l.length * w := by rw [← Nat.add_mul]; congr 1; omega
      omega
    · rw [hf] at hsz hnb hp hv ⊢
      have e : l.drop l.length = [] := List.drop_length
      rw [e, bytes_nil]
      have hm : nb l.length * 8 * w ≤ (l.length + 7) * w := Nat.mul_le_mul_right _ hnb.2.2
      rw [Nat.add_mul] at hm
      simp only [List.length_nil]
      omega
def PartOk (w left : Nat) : Part → Prop
  | .run n m => n < 2 ^ w ∧ 1 ≤ m ∧ m ≤ left
  | .blk l => (∀ x ∈ l, x < 2 ^ w) ∧ 1 ≤ l.length ∧ l.length ≤ left ∧ (l.length % 8 = 0 ∨ l.length = left)
def PartsOk (w : Nat) : Nat → List Part → Prop
  | _, [] => True
  | left, p :: ps => PartOk w left p ∧ PartsOk w (left - p.nums.length) ps
theorem leN_pkd (w : Nat) (l : List Nat) (h : ∀ x ∈ l, x < 2 ^ w) : B.leN (pkd w l) = B.pk w l := by
  unfold pkd
  rw [B.leN_le]
  apply Nat.mod_eq_of_lt
  have := B.pk_lt w l h
  rw [Nat.mul_comm] at this
  refine Nat.lt_of_lt_of_le this ?_
  rw [B.two8]; exact Nat.pow_le_pow_right (by omega) (by unfold B.sz; omega)
theorem pk_top (w : Nat) (l : List Nat) (h : ∀ x ∈ l, x < 2 ^ w) : B.pk w l / 2 ^ (l.length * w) = 0 := by
  have := B.pk_lt w l h
  rw [Nat.mul_comm] at this
  exact Nat.div_eq_of_lt this
theorem wd_zero (k : Nat) : B.wd (List.replicate k 0) = 0 := by
  have := (B.wd_le (List.replicate k 0) 0).2 (fun x hx => by rw [List.eq_of_mem_replicate hx]; simp)
  omega
def Part.head : Part → Nat
  | .run _ m => 2 * m
  | .blk l => 2 * nb l.length + 1
def Part.pays : Part → List Nat
  | .run n _ => [n]
  | .blk l => pad l
theorem bytes_eq (w : Nat) (p : Part) : Part.bytes w p = V.enc p.head ++ pkd w p.pays := by cases p <;> rfl
theorem fit_even (m left : Nat) : fit (2 * m) left = if m = 0 then 1 else if left < m then 2 else 0 := by
  unfold fit
  rw [show 2 * m / 2 = m by omega, show 2 * m % 2 = 0 by omega]; rfl
theorem fit_odd (k left : Nat) : fit (2 * k + 1) left = if k = 0 then 1 else if nb left < k then 2 else 0 := by
  unfold fit
  rw [show (2 * k + 1) / 2 = k by omega, show (2 * k + 1) % 2 = 1 by omega]; rfl
theorem head_lt (w left : Nat) (p : Part) (hl : left ≤ 64) (h : PartOk w left p) : p.head < 128 + 2 ∧ fit p.head left = 0 ∧ p.pays.length = held p.head ∧ (∀ x ∈ p.pays, x < 2 ^ w) := by
  cases p with
  | run n m =>
    obtain ⟨h1, h2, h3⟩ := h
    simp only [Part.head, Part.pays]
    refine ⟨by omega, ?_, ?_, by simpa using h1⟩
    · rw [fit_even, if_neg (by omega), if_neg (by omega)]
    · unfold held; rw [if_neg (by omega)]; rfl
  | blk l =>
    obtain ⟨h1, h2, h3, h4⟩ := h
    simp only [Part.head, Part.pays]
    have hn : 1 ≤ nb l.length ∧ nb l.length ≤ 8 ∧ nb l.length ≤ nb left := by unfold nb; omega
    refine ⟨by omega, ?_, ?_, pad_mem l w h1⟩
    · rw [fit_odd, if_neg (by omega), if_neg (by omega)]
    · unfold held; rw [if_pos (by omega), pad_length]; omega
theorem first_bytes (w left : Nat) (p : Part) (t : List UInt8) (hl : left ≤ 64) (h : PartOk w left p) : first (Part.bytes w p ++ t) left w = (0, p, (Part.bytes w p).length) := by
  obtain ⟨h1, h2, h3, h4⟩ := head_lt w left p hl h
  rw [bytes_eq]
  have hpl : (pkd w p.pays).length = B.sz (held p.head * w) := by rw [pkd_length, h3]
  unfold first
  rw [List.append_assoc, V.rd_enc p.head (by omega)]
  simp only [ne_eq, not_true_eq_false, if_false]
  unfold firstL
  rw [if_neg (by simp [h2]), if_neg (by rw [List.length_append, List.length_append, V.enc_length, hpl]; omega)]
  have hd : ((V.enc p.head ++ (pkd w p.pays ++ t)).drop (V.sz p.head)).take (B.sz (held p.head * w)) = pkd w p.pays := by
    rw [List.drop_append_of_le_length (by rw [V.enc_length]; omega), List.drop_of_length_le (by rw [V.enc_length]; omega), List.nil_append, ← hpl, List.take_left]
  rw [hd, List.length_append, V.enc_length, hpl]
  unfold body
  rw [leN_pkd w _ h4]
  have htop := pk_top w p.pays h4
  rw [h3] at htop
  rw [if_neg (by simp [htop])]
  cases p with
  | run n m =>
    have hdg : B.dg w 1 (B.pk w [n]) = [n] := B.dg_pk w [n] h4
    rw [if_pos (show (Part.run n m).head % 2 = 0 by show 2 * m % 2 = 0; omega)]
    show (0, Part.run ((B.dg w 1 (B.pk w [n])).headD 0) (2 * m / 2), _) = _
    rw [hdg, show 2 * m / 2 = m by omega]; rfl
  | blk l =>
    obtain ⟨g1, g2, g3, g4⟩ := h
    have h3' : (pad l).length = held (2 * nb l.length + 1) := h3
    have hdg : B.dg w (pad l).length (B.pk w (pad l)) = pad l := B.dg_pk w (pad l) h4
    rw [h3'] at hdg
    have hmin : min left (held (2 * nb l.length + 1)) = l.length := by rw [← h3', pad_length]; unfold nb; omega
    have e1 : (pad l).drop l.length = List.replicate (8 * nb l.length - l.length) 0 := by unfold pad; rw [List.drop_left]
    have e2 : (pad l).take l.length = l := by unfold pad; rw [List.take_left]
    rw [if_neg (show ¬ (Part.blk l).head % 2 = 0 by show ¬ (2 * nb l.length + 1) % 2 = 0; omega)]
    show (if B.wd ((B.dg w (held (2 * nb l.length + 1)) (B.pk w (pad l))).drop (min left (held (2 * nb l.length + 1)))) ≠ 0 then (1, Part.blk [], 0)
      else (0, Part.blk ((B.dg w (held (2 * nb l.length + 1)) (B.pk w (pad l))).take (min left (held (2 * nb l.length + 1)))), _)) = _
    rw [hdg, hmin, e1, e2, wd_zero, if_neg (by simp)]
theorem nums_pos (w left : Nat) (p : Part) (h : PartOk w left p) : 1 ≤ p.nums.length ∧ p.nums.length ≤ left := by
  cases p with
  | run n m => simp only [Part.nums, List.length_replicate]; exact ⟨h.2.1, h.2.2⟩
  | blk l => exact ⟨h.2.1, h.2.2.1⟩
theorem read_parts (w : Nat) : ∀ (ps : List Part) (left : Nat) (t : List UInt8), left ≤ 64 → PartsOk w left ps →
    read (ps.flatMap (Part.bytes w) ++ t) left w = pre (ps.flatMap Part.nums) (read t (left - (ps.flatMap Part.nums).length) w) := by
  intro ps
  induction ps with
  | nil =>
    intro left t _ _
    simp only [List.flatMap_nil, List.nil_append, List.length_nil, Nat.sub_zero]
    exact (pre_nil _ (read_err t left w)).symm
  | cons p ps ih =>
    intro left t hl h
    obtain ⟨h1, h2⟩ := h
    have hn := nums_pos w left p h1
    have hf := first_bytes w left p (ps.flatMap (Part.bytes w) ++ t) hl h1
    simp only [List.flatMap_cons, List.append_assoc]
    rw [read_step _ left w (by omega) (by rw [hf]), hf]
    simp only [List.drop_left]
    rw [ih (left - p.nums.length) t (by omega) h2, pre_pre, List.length_append, Nat.sub_sub]
theorem parts_ok (w : Nat) : ∀ l : List Nat, (∀ x ∈ l, x < 2 ^ w) → PartsOk w l.length (parts l) ∧ (parts l).flatMap Part.nums = l := by
  refine parts_ind (fun l => (∀ x ∈ l, x < 2 ^ w) → PartsOk w l.length (parts l) ∧ (parts l).flatMap Part.nums = l) ?_ ?_ ?_
  · intro _; simp [parts_nil, PartsOk]
  · intro l h0 h8 ih hx
    have hr := row_le l
    obtain ⟨i1, i2⟩ := ih (fun x hx' => hx x (List.mem_of_mem_drop hx'))
    rw [parts_run l h0 h8]
    have hh : l.headD 0 ∈ l := by cases l with
      | nil => exact absurd rfl h0
      | cons x l => simp
    refine ⟨⟨⟨hx _ hh, by omega, hr⟩, ?_⟩, ?_⟩
    · simp only [Part.nums, List.length_replicate]
      rw [List.length_drop] at i1; exact i1
    · simp only [List.flatMap_cons, i2, Part.nums]
      rw [← row_take, List.take_append_drop]
  · intro l h0 h8 ih hx
    have hr := loose_le l
    have hp := loose_pos l (fun e => e.elim h0 h8)
    obtain ⟨i1, i2⟩ := ih (fun x hx' => hx x (List.mem_of_mem_drop hx'))
    rw [parts_blk l h0 h8]
    have hlt : (l.take (loose l)).length = loose l := by rw [List.length_take]; omega
    refine ⟨⟨⟨fun x hx' => hx x (List.mem_of_mem_take hx'), by omega, by omega, ?_⟩, ?_⟩, ?_⟩
    · rw [hlt]; exact loose_full l
    · simp only [Part.nums, hlt]
      rw [List.length_drop] at i1; exact i1
    · simp only [List.flatMap_cons, i2, Part.nums, List.take_append_drop]
theorem read_bytes (w : Nat) (l : List Nat) (t : List UInt8) (hl : l.length ≤ 64) (hx : ∀ x ∈ l, x < 2 ^ w) : read (bytes w l ++ t) l.length w = pre l (read t 0 w) := by
  obtain ⟨h1, h2⟩ := parts_ok w l hx
  have := read_parts w (parts l) l.length t hl h1
  rw [h2, Nat.sub_self] at this
  exact this
theorem read_back (w : Nat) (l : List Nat) (hl : l.length ≤ 64) (hx : ∀ x ∈ l, x < 2 ^ w) : read (bytes w l) l.length w = (l, 0) := by
  have := read_bytes w l [] hl hx
  rw [List.append_nil] at this
  rw [this, read_zero]; simp [pre]
end Go.Proofs.YtcachhnhncodoaaGreat.H
namespace Go.Proofs.YtcachhnhncodoaaGreat.H
set_option linter.unusedVariables false
theorem bytes_len (w : Nat) : ∀ l : List Nat, (bytes w l).length ≤ (18 + w) * l.length := by
  refine parts_ind (fun l => (bytes w l).length ≤ (18 + w) * l.length) ?_ ?_ ?_
  · simp [bytes_nil]
  · intro l h0 h8 ih
    have hr := row_le l
    rw [bytes_run w l h0 h8, List.length_append]
    simp only [Part.bytes, List.length_append, V.enc_length, pkd_length, List.length_cons, List.length_nil, Nat.zero_add, Nat.one_mul]
    rw [List.length_drop] at ih
    have hv := V.sz_le (2 * row l)
    have hs : B.sz w ≤ w := by unfold B.sz; omega
    have hm : (18 + w) * (l.length - row l) + (18 + w) * row l = (18 + w) * l.length := by rw [← Nat.mul_add]; congr 1; omega
    have h8w : (18 + w) * 8 ≤ (18 + w) * row l := Nat.mul_le_mul_left _ h8
    omega
  · intro l h0 h8 ih
    have hr := loose_le l
    have hp := loose_pos l (fun e => e.elim h0 h8)
    rw [bytes_blk w l h0 h8, List.length_append]
    simp only [Part.bytes, List.length_append, V.enc_length, pkd_length, pad_length, List.length_take, Nat.min_eq_left hr]
    rw [List.length_drop] at ih
    have hv := V.sz_le (2 * nb (loose l) + 1)
    have hsz : 8 * B.sz (nb (loose l) * 8 * w) = nb (loose l) * 8 * w := by
      rw [Nat.mul_assoc, Nat.mul_left_comm]; unfold B.sz; omega
    have hnb : nb (loose l) ≤ loose l := by unfold nb; omega
    have e1 : nb (loose l) * 8 * w = 8 * (nb (loose l) * w) := by rw [Nat.mul_comm (nb (loose l)) 8, Nat.mul_assoc]
    have e2 : nb (loose l) * w ≤ w * loose l := by rw [Nat.mul_comm]; exact Nat.mul_le_mul_left _ hnb
    have hm : (18 + w) * (l.length - loose l) + (18 + w) * loose l = (18 + w) * l.length := by rw [← Nat.mul_add]; congr 1; omega
    have hx : (18 + w) * loose l = 18 * loose l + w * loose l := Nat.add_mul _ _ _
    omega
def eightK (l : List Nat) (q k : Nat) : List Nat := (List.range k).map fun i => l.getD (q + i) 0
theorem eightK_length (l : List Nat) (q k : Nat) : (eightK l q k).length = k := by simp [eightK]
theorem eightK_succ (l : List Nat) (q k : Nat) : eightK l q (k + 1) = eightK l q k ++ [l.getD (q + k) 0] := by simp [eightK, List.range_succ]
theorem eightK_eq (l : List Nat) (q : Nat) : (l.drop q).take 8 ++ List.replicate (8 - (l.drop q).length) 0 = eightK l q 8 := by
  apply List.ext_getElem?
  intro i
  by_cases h8 : i < 8
  · have e : (eightK l q 8)[i]? = some (l.getD (q + i) 0) := by simp [eightK, h8]
    rw [e]
    by_cases hl : i < (l.drop q).length
    · rw [List.getElem?_append_left (by rw [List.length_take]; omega), List.getElem?_take_of_lt h8, List.getElem?_drop]
      rw [List.length_drop] at hl
      simp [List.getD, List.getElem?_eq_getElem (show q + i < l.length by omega)]
    · rw [List.getElem?_append_right (by rw [List.length_take]; omega), List.getElem?_replicate]
      rw [if_pos (by rw [List.length_take]; omega)]
      rw [List.length_drop] at hl
      simp [List.getD, List.getElem?_eq_none (show l.length ≤ q + i by omega)]
  · rw [List.getElem?_eq_none (by rw [List.length_append, List.length_take, List.length_replicate]; omega), List.getElem?_eq_none (by rw [eightK_length]; omega)]
theorem pad_append (A B : List Nat) (h : A.length = 8) : pad (A ++ B) = A ++ pad B := by
  unfold pad
  rw [List.append_assoc, List.length_append, h]
  congr 3
  unfold nb; omega
theorem pad_step (l : List Nat) (q : Nat) (h : ¬ (l.drop q = [] ∨ 8 ≤ row (l.drop q))) :
    pad ((l.drop q).take (loose (l.drop q))) = eightK l q 8 ++ pad ((l.drop (q + 8)).take (loose (l.drop (q + 8)))) ∧
    l.drop (q + loose (l.drop q)) = l.drop (q + 8 + loose (l.drop (q + 8))) := by
  have hg := loose_go (l.drop q) h
  have hdd : (l.drop q).drop 8 = l.drop (q + 8) := by rw [List.drop_drop]
  have hp : 1 ≤ (l.drop q).length := List.length_pos_iff.2 (fun e => h (Or.inl e))
  rw [hdd] at hg
  have he := eightK_eq l q
  by_cases h8 : 8 ≤ (l.drop q).length
  · rw [Nat.min_eq_left h8] at hg
    rw [show 8 - (l.drop q).length = 0 by omega, List.replicate_zero, List.append_nil] at he
    rw [hg]
    constructor
    · rw [List.take_add, hdd, pad_append _ _ (by rw [List.length_take]; omega), he]
    · rw [Nat.add_assoc]
  · have hnil : l.drop (q + 8) = [] := List.drop_eq_nil_of_le (by rw [List.length_drop] at h8; omega)
    rw [hnil, loose_stop [] (Or.inl rfl)] at hg ⊢
    rw [Nat.min_eq_right (by omega), Nat.add_zero] at hg
    rw [hg]
    constructor
    · rw [List.take_length, List.take_nil]
      have e1 : pad [] = [] := rfl
      rw [e1, List.append_nil, ← he, List.take_of_length_le (by omega)]
      unfold pad
      congr 2
      unfold nb; omega
    · rw [Nat.add_zero, hnil, List.length_drop]
      exact List.drop_eq_nil_of_le (by omega)
theorem pad_stop (l : List Nat) (h : l = [] ∨ 8 ≤ row l) : pad (l.take (loose l)) = [] ∧ loose l = 0 := by
  rw [loose_stop l h, List.take_zero]; exact ⟨rfl, rfl⟩
end Go.Proofs.YtcachhnhncodoaaGreat.H
namespace Go.Proofs.YtcachhnhncodoaaGreat
open Go.RowKit
set_option linter.unusedVariables false
set_option maxHeartbeats 400000 in
theorem big_any (n k : Nat) (w : World) (hn : n < 18446744073709551616) (hk : k ≤ 9) :
    Calls Tryz.prog 32 #[.int .u64 n, .int .i64 k] w (TextPost (V.be k n) w) := by
  go_enter Tryz.func32, Tryz.ntmps32
  go_wp2_with fail
  go_loopw [0, 5, 6] (fun m t i wr => ∃ j : Nat, j ≤ k ∧ m = .int .u64 (n / 256 ^ j : Nat) ∧ t = .string (str (V.be j n)) ∧ i = .int .i64 j ∧ Below w.heap.size w wr) (fun _ _ i _ => k - (intOf i).toNat)
  case atStart => exact ⟨0, by omega, by simp, rfl, rfl, Below.refl _ _⟩
  case round =>
    obtain ⟨j, hj, rfl, rfl, rfl, hb⟩ := hrel
    by_cases hlt : j < k
    · have hle : n / 256 ^ j ≤ n := Nat.div_le_self _ _
      have HB := Lib.hid (show V.be (j + 1) n = UInt8.ofNat (n / 256 ^ j % 256) :: V.be j n by
        rw [V.be]; congr 1; apply UInt8.toNat_inj.mp; simp)
      have HD := Lib.hid (show n / 256 ^ (j + 1) = n / 256 ^ j / 256 by rw [Nat.pow_succ, Nat.div_div_eq_div_mul])
      have hsz : (str (V.be j n)).size ≤ 9 := by rw [str_size, V.be_length]; omega
      obtain ⟨t, ht⟩ : ∃ t, t = str (V.be j n) := ⟨_, rfl⟩
      rw [← ht] at hsz ⊢
      have HT := Lib.hid ht
      clear ht
      generalize n / 256 ^ j = q at *
      have h1 : (str [UInt8.ofNat (q % 256)]).size = 1 := rfl
      go_wp2_with fail
      refine (one_eq _ (q % 256) _ (by simp) (by omega)).mono ?_
      rintro e w1 ⟨rfl, hb1⟩
      go_wp2_with fail
      refine ⟨⟨j + 1, by omega, by rw [HD.out]; simp, ?_, by go_num, below_then hb hb1⟩, by simp [intOf]; omega⟩
      rw [HT.out, str_append, HB.out]; rfl
    · obtain rfl : j = k := by omega
      go_wp2_with fail
      go_ret
      exact ⟨rfl, hb⟩
theorem be_tail (k v c : Nat) : V.be k (v + c * 256 ^ k) = V.be k v := by
  apply V.be_congr; rw [Nat.add_mul_mod_self_right]
theorem enc_by (n k : Nat) (hk : V.sz n = k + 1) (hn : n < 18446744073709551616) :
    V.enc n = UInt8.ofNat (n / 256 ^ k % 256 + V.ld (k + 1)) :: V.be k n := by
  unfold V.enc
  rw [hk, V.be, Nat.add_sub_cancel, be_tail]
  congr 1
  apply UInt8.toNat_inj.mp
  rw [Nat.add_mul_div_right _ _ (Nat.pow_pos (by omega))]
  simp only [UInt8.toNat_ofNat']
  omega
theorem ld_step (k : Nat) (h1 : 1 ≤ k) (h8 : k ≤ 8) : V.ld (k + 1) = V.ld k / 2 + 128 := by
  have : k = 1 ∨ k = 2 ∨ k = 3 ∨ k = 4 ∨ k = 5 ∨ k = 6 ∨ k = 7 ∨ k = 8 := by omega
  rcases this with rfl | rfl | rfl | rfl | rfl | rfl | rfl | rfl <;> rfl
theorem be_text (j n : Nat) : ∃ t : ByteArray, t = str (V.be (j + 1) n) ∧ t.size = j + 1 ∧ (∀ h : 0 < t.size, t[0].toNat = n / 256 ^ j % 256) ∧ t.extract 1 t.size = str (V.be j n) := by
  refine ⟨_, rfl, by rw [str_size, V.be_length], ?_, ?_⟩
  · intro h
    show (UInt8.ofNat (n / 256 ^ j)).toNat = _
    simp
  · apply ByteArray.ext
    apply Array.toList_inj.mp
    rw [cut_data, str_data, str_data, V.be, List.drop_succ_cons, List.drop_zero]
def LimRel (n k : Nat) : Prop := k = 1 ∨ 128 ^ (k - 1) ≤ n
theorem lim_sz (n k : Nat) (h1 : 1 ≤ k) (h8 : k ≤ 8) (hr : LimRel n k) (h : n < 128 ^ k) : V.sz n = k := by
  have hs := V.sz_spec n
  unfold LimRel at hr
  have : k = 1 ∨ k = 2 ∨ k = 3 ∨ k = 4 ∨ k = 5 ∨ k = 6 ∨ k = 7 ∨ k = 8 := by omega
  rcases this with rfl | rfl | rfl | rfl | rfl | rfl | rfl | rfl <;> simp only [Nat.reduceSub, Nat.reducePow] at h hr <;> omega
theorem lim_bd (k : Nat) (h9 : k ≤ 9) : 128 ^ k < 18446744073709551616 := by
  have : 128 ^ k ≤ 128 ^ 9 := Nat.pow_le_pow_right (by omega) h9
  omega
set_option maxHeartbeats 400000 in
theorem vbytes_any (n : Nat) (w : World) (hn : n < 18446744073709551616) :
    Calls Tryz.prog 15 #[.int .u64 n] w (TextPost (V.enc n) w) := by
  go_enter Tryz.func15, Tryz.ntmps15
  go_wp2_with fail
  go_loopw [2, 3, 4, 5, 6] (fun _ m f i _ wr => ∃ k : Nat, 1 ≤ k ∧ k ≤ 9 ∧ LimRel n k ∧ m = .int .u64 (128 ^ k : Nat) ∧ f = .int .i64 (V.ld k : Nat) ∧ i = .int .i64 k ∧ Below w.heap.size w wr) (fun _ _ _ i _ _ => 10 - (intOf i).toNat)
  case atStart => exact ⟨1, by omega, by omega, Or.inl rfl, rfl, rfl, rfl, Below.refl _ _⟩
  case round =>
    obtain ⟨k, h1, h9, hr, rfl, rfl, rfl, hb⟩ := hrel
    have hL := lim_bd k h9
    by_cases h8 : k ≤ 8
    · by_cases hlt : n < 128 ^ k
      · have hsz := lim_sz n k h1 h8 hr hlt
        obtain ⟨j, rfl⟩ : ∃ j, k = j + 1 := ⟨k - 1, by omega⟩
        have HE := Lib.hid (enc_by n j hsz hn)
        generalize 128 ^ (j + 1) = L at *
        clear hsz hr
        go_wp2_with fail
        refine (big_any n (j + 1) _ hn (by omega)).mono ?_
        rintro e w1 ⟨rfl, hb1⟩
        obtain ⟨t, ht, hts, hth, htc⟩ := be_text j n
        rw [← ht]
        have HTC := Lib.hid htc
        have HTH := Lib.hid hth
        have HTS := Lib.hid hts
        have h0 : 0 < t.size := by omega
        have hle : t.size ≤ 9 := by omega
        have hex : (t.extract 1 t.size).size ≤ 9 := by simp; omega
        have hh : t[0].toNat < 256 := t[0].toNat_lt
        have hld : V.ld (j + 1) ≤ 255 := by
          rcases nine (k := j + 1) (by omega) (by omega) with h | h | h | h | h | h | h | h | h <;> rw [h] <;> decide
        have hsum : IntKind.i64.wrap ((t[0].toNat : Int) + (V.ld (j + 1) : Int)) = (t[0].toNat : Int) + (V.ld (j + 1) : Int) := IntWalk.i64_in _ (by omega)
        have hwr : IntKind.i64.wrap (t[0].toNat : Int) = (t[0].toNat : Int) := IntWalk.i64_in _ (by omega)
        have hI : (1 : Int) ≤ (t.size : Int) := by omega
        obtain ⟨x, hx⟩ : ∃ x, x = UInt8.ofNat (t[0].toNat + V.ld (j + 1)) := ⟨_, rfl⟩
        have HO := Lib.hid (fun w => show Calls Tryz.prog 33 #[.int .i64 ((t[0].toNat : Int) + (V.ld (j + 1) : Int))] w (TextPost [x] w) by
          rw [hx]; exact one_eq _ _ w (by simp) (by omega))
        have HX := Lib.hid hx
        have hs1 : (str [x]).size = 1 := rfl
        clear hx
        have hcat : ¬ 9223372036854775807 < 1 + (t.size - 1) := by omega
        clear ht hth htc hts
        go_wp2_with fail
        go_region_held3 (fun _ => True) (exact trivial) (first | (go_at_call 33; refine (HO.out _).mono ?_; rintro e w2 ⟨rfl, hb2⟩))
        go_wp2_with fail
        go_ret
        refine ⟨?_, below_then (below_then hb hb1) ((Below.refl _ _).drew.trans hb2)⟩
        show Ending.returned (Value.string _) = _
        rw [HTC.out, str_append, HE.out, HX.out, HTH.out h0]; rfl
      · have hr' : LimRel n (k + 1) := Or.inr (by rw [Nat.add_sub_cancel]; omega)
        have HP := Lib.hid (show 128 ^ (k + 1) = 128 ^ k * 128 from Nat.pow_succ 128 k)
        have HLD := Lib.hid (ld_step k h1 h8)
        have hL2 : 128 ^ k * 128 < 18446744073709551616 := by rw [← HP.out]; exact lim_bd (k + 1) (by omega)
        have hld : V.ld k ≤ 256 := Nat.sub_le _ _
        generalize 128 ^ k = L at *
        generalize V.ld k = d at *
        go_wp2_with fail
        refine ⟨⟨k + 1, by omega, by omega, hr', by rw [HP.out]; simp, by rw [HLD.out]; simp, by go_num, hb⟩, by simp [intOf]; omega⟩
    · obtain rfl : k = 9 := by omega
      have HE := Lib.hid (enc_by n 8 (by have hs := V.sz_spec n; unfold LimRel at hr; simp only [Nat.reduceSub, Nat.reducePow] at hr; omega) hn)
      have hs1 : (str [UInt8.ofNat 255]).size = 1 := rfl
      have hs8 : (str (V.be 8 n)).size = 8 := by rw [str_size, V.be_length]
      have HZ := Lib.hid (show n / 256 ^ 8 % 256 = 0 by omega)
      generalize 128 ^ 9 = L at *
      go_wp2_with fail
      refine (one_any 255 _ (by omega)).mono ?_
      rintro e w1 ⟨rfl, hb1⟩
      go_wp2_with fail
      refine (big_any n 8 _ hn (by omega)).mono ?_
      rintro e w2 ⟨rfl, hb2⟩
      go_wp2_with fail
      go_ret
      refine ⟨?_, below_then (below_then hb hb1) hb2⟩
      show Ending.returned (Value.string _) = _
      rw [str_append, HE.out, HZ.out]; rfl
end Go.Proofs.YtcachhnhncodoaaGreat
namespace Go.Proofs.YtcachhnhncodoaaGreat
open Go.RowKit
set_option linter.unusedVariables false
def LenRel (c k b : Nat) : Prop := b = (c - V.ld k) * 2 ^ (k - 1) ∧ V.ld k ≤ c
theorem len_on (c k b : Nat) (hc : c < 256) (h1 : 1 ≤ k) (h8 : k ≤ 8) (hr : LenRel c k b) (hb : 128 ≤ b) : LenRel c (k + 1) ((b - 128) * 2) := by
  unfold LenRel at *
  have : k = 1 ∨ k = 2 ∨ k = 3 ∨ k = 4 ∨ k = 5 ∨ k = 6 ∨ k = 7 ∨ k = 8 := by omega
  rcases this with rfl | rfl | rfl | rfl | rfl | rfl | rfl | rfl <;> simp only [V.ld, Nat.reduceSub, Nat.reducePow, Nat.reduceAdd] at hr ⊢ <;> omega
theorem len_end (c k b : Nat) (hc : c < 256) (h1 : 1 ≤ k) (h8 : k ≤ 8) (hr : LenRel c k b) (hb : b < 128) : V.kl c = k := by
  unfold LenRel at *
  have hs := V.kl_spec c hc
  have : k = 1 ∨ k = 2 ∨ k = 3 ∨ k = 4 ∨ k = 5 ∨ k = 6 ∨ k = 7 ∨ k = 8 := by omega
  rcases this with rfl | rfl | rfl | rfl | rfl | rfl | rfl | rfl <;> simp only [V.ld, Nat.reduceSub, Nat.reducePow] at hr <;> omega
theorem len_nine (c b : Nat) (hc : c < 256) (hr : LenRel c 9 b) : V.kl c = 9 := by
  unfold LenRel at *
  have hs := V.kl_spec c hc
  simp only [V.ld, Nat.reduceSub, Nat.reducePow] at hr
  omega
theorem len_bd (c k b : Nat) (hc : c < 256) (h1 : 1 ≤ k) (h9 : k ≤ 9) (hr : LenRel c k b) : b ≤ 65536 := by
  unfold LenRel at *
  rcases nine h1 h9 with rfl | rfl | rfl | rfl | rfl | rfl | rfl | rfl | rfl <;> simp only [V.ld, Nat.reduceSub, Nat.reducePow] at hr <;> omega
set_option maxHeartbeats 400000 in
theorem vlen_any (c : Nat) (w : World) (hc : c < 256) :
    Calls Tryz.prog 91 #[.int .i64 c] w fun e w' => e = .returned (.int .i64 (V.kl c)) ∧ w = w' := by
  go_enter Tryz.func91, Tryz.ntmps91
  go_wp2_with fail
  go_loop [0, 3] (fun m i => ∃ k b : Nat, 1 ≤ k ∧ k ≤ 9 ∧ LenRel c k b ∧ m = .int .i64 b ∧ i = .int .i64 k) (fun _ i => 10 - (intOf i).toNat)
  case atStart => exact ⟨1, c, by omega, by omega, ⟨by simp [V.ld], by simp [V.ld]⟩, rfl, rfl⟩
  case round =>
    obtain ⟨k, b, h1, h9, hr, rfl, rfl⟩ := hrel
    have hbd := len_bd c k b hc h1 h9 hr
    by_cases h8 : k ≤ 8
    · have g1 : decide ((k : Int) ≤ 8) = true := by simp; omega
      by_cases hb : 128 ≤ b
      · have hr' := len_on c k b hc h1 h8 hr hb
        have g2 : decide ((128 : Int) ≤ (b : Int)) = true := by simp; omega
        go_wp2_with fail
        refine ⟨⟨k + 1, (b - 128) * 2, by omega, by omega, hr', ?_, by go_num⟩, by simp [intOf]; omega⟩
        congr 1; omega
      · have HK := Lib.hid (len_end c k b hc h1 h8 hr (by omega))
        have g2 : decide ((128 : Int) ≤ (b : Int)) = false := by simp; omega
        go_wp2_with fail
        go_ret
        exact ⟨by rw [HK.out]; rfl, rfl⟩
    · obtain rfl : k = 9 := by omega
      have HK := Lib.hid (len_nine c b hc hr)
      go_wp2_with fail
      go_ret
      exact ⟨by rw [HK.out]; rfl, rfl⟩
theorem val_acc (s : ByteArray) (h0 : 0 < s.size) (h : V.kl s[0].toNat ≤ s.size) :
    V.val (s.data.toList.take (V.kl s[0].toNat)) = acc s[0].toNat (V.kl s[0].toNat) (s.data.toList.drop 1) (V.kl s[0].toNat - 1) + V.ld (V.kl s[0].toNat) * 256 ^ (V.kl s[0].toNat - 1) := by
  obtain ⟨l, hl⟩ := head_cons s h0
  have hsz : (s[0] :: l).length = s.size := by rw [← hl]; exact len_data s
  rw [hl]
  obtain ⟨f1, f2, f3, f4⟩ := V.rd_facts s[0] l (by omega)
  simp only [List.drop_succ_cons, List.drop_zero, acc]
  omega
theorem acc_sum (s : ByteArray) (h0 : 0 < s.size) (h : V.kl s[0].toNat ≤ s.size) (h9 : V.kl s[0].toNat < 9) :
    acc s[0].toNat (V.kl s[0].toNat) (s.data.toList.drop 1) (V.kl s[0].toNat - 1) + V.ld (V.kl s[0].toNat) * 256 ^ (V.kl s[0].toNat - 1) < 18446744073709551616 := by
  rw [← val_acc s h0 h]
  refine Nat.lt_of_lt_of_le (V.val_lt _) ?_
  have : 256 ^ (s.data.toList.take (V.kl s[0].toNat)).length ≤ 256 ^ 8 := Nat.pow_le_pow_right (by omega) (by rw [List.length_take]; omega)
  omega
theorem enc_cmp (s : ByteArray) (h0 : 0 < s.size) (h : V.kl s[0].toNat ≤ s.size) (A : Nat) (hA : acc s[0].toNat (V.kl s[0].toNat) (s.data.toList.drop 1) (V.kl s[0].toNat - 1) = A) :
    (V.sz A < V.kl s[0].toNat → V.enc A ≠ s.data.toList.take (V.kl s[0].toNat)) ∧ (¬ V.sz A < V.kl s[0].toNat → V.enc A = s.data.toList.take (V.kl s[0].toNat)) := by
  obtain ⟨_, hr⟩ := rd_long s h0 h
  rw [hA] at hr
  constructor
  · intro hz e
    have h1 := congrArg List.length e
    rw [V.enc_length, List.length_take, len_data] at h1
    omega
  · intro hz
    rw [if_neg hz] at hr
    exact (V.rd_ok _ _ _ hr).2.2.1
theorem pow_bd (k : Nat) (h1 : 1 ≤ k) (h8 : k ≤ 8) (j : Nat) (hj : j ≤ k - 1) : V.ld k * 256 ^ j < 18446744073709551616 := by
  have a : V.ld k ≤ 255 := by
    rcases nine h1 (by omega) with rfl | rfl | rfl | rfl | rfl | rfl | rfl | rfl | rfl <;> decide
  have b : 256 ^ j ≤ 256 ^ 7 := Nat.pow_le_pow_right (by omega) (by omega)
  have c : V.ld k * 256 ^ j ≤ 255 * 256 ^ 7 := Nat.mul_le_mul a b
  omega
def valM (s : ByteArray) (i : Nat) : Nat := V.val (s.data.toList.take i) % 18446744073709551616
theorem valM_step (s : ByteArray) (i : Nat) (hi : i < s.size) : valM s (i + 1) = (valM s i * 256 + s[i].toNat) % 18446744073709551616 := by
  have hl : i < s.data.toList.length := by rw [len_data]; exact hi
  have e : s.data.toList.take (i + 1) = s.data.toList.take i ++ [s[i]] := by
    rw [List.take_succ_eq_append_getElem hl]; rfl
  unfold valM
  rw [e, V.val_snoc]
  omega
set_option maxHeartbeats 400000 in
theorem vof_empty (s : ByteArray) (w : World) (h : s.size = 0) :
    Calls Tryz.prog 63 #[.string s] w (ReadPost (0, 0, 5) w) := by
  go_enter Tryz.func63, Tryz.ntmps63
  go_wp2_with fail
  go_ret3
  exact ⟨rfl, Below.refl _ _⟩
set_option maxHeartbeats 1000000 in
theorem vof_any (s : ByteArray) (w : World) (hs : s.size ≤ maxLen) (h0 : 0 < s.size) :
    Calls Tryz.prog 63 #[.string s] w (ReadPost (V.rd s.data.toList) w) := by
  unfold maxLen at hs
  have hc := s[0].toNat_lt
  obtain ⟨k1, k9, kld, kb, _⟩ := V.kl_bounds s[0].toNat hc
  have hvl := fun w => vlen_any s[0].toNat w hc
  have hrd := fun x => rd_short s h0 x
  have hrl := fun x => rd_long s h0 x
  have hva := fun x => val_acc s h0 x
  have hcp := fun x => enc_cmp s h0 x
  have has := fun x y => acc_sum s h0 x y
  generalize hk : V.kl s[0].toNat = k at *
  have HVA := Lib.hid hva
  have HCP := Lib.hid hcp
  have HAS := Lib.hid has
  clear hva hcp has
  have HRD := Lib.hid hrd
  have HRL := Lib.hid hrl
  have HVL := Lib.hid hvl
  clear hrd hrl hvl hk kb kld
  have hsz0 : ((s.size : Int) == 0) = false := by rw [beq_eq_false_iff_ne]; omega
  go_enter Tryz.func63, Tryz.ntmps63
  go_wp2_with fail
  refine (HVL.out _).mono ?_
  rintro e w' ⟨rfl, rfl⟩
  by_cases hlen : s.size < k
  · go_wp2_with fail
    go_ret3
    exact ⟨by rw [HRD.out hlen]; rfl, Below.refl _ _⟩
  · go_wp2_with fail
    go_loop [6, 7] (fun m i => ∃ j : Nat, j ≤ k ∧ m = .int .u64 (valM s j) ∧ i = .int .i64 j) (fun _ i => k - (intOf i).toNat)
    case atStart => exact ⟨0, by omega, by simp [valM, V.val], rfl⟩
    case round =>
      obtain ⟨j, hj, rfl, rfl⟩ := hrel
      by_cases hlt : j < k
      · have HS := Lib.hid (valM_step s j (by omega))
        have hm : valM s j < 18446744073709551616 := Nat.mod_lt _ (by omega)
        have hx := s[j].toNat_lt
        have hw8 : IntKind.u64.wrap (s[j].toNat : Int) = (s[j].toNat : Int) := by rw [IntKind.wrap_u64]; omega
        generalize valM s j = M at *
        go_wp2_with fail
        refine ⟨⟨j + 1, by omega, ?_, by go_num⟩, by simp [intOf]; omega⟩
        rw [HS.out, IntKind.wrap_u64, IntKind.wrap_u64]
        congr 1; omega
      · obtain rfl : j = k := by omega
        have hkI : (j : Int) ≤ (s.size : Int) := by omega
        obtain ⟨hal, hrd⟩ := HRL.out (by omega)
        have hva := HVA.out (by omega)
        have hcp := fun A => HCP.out (by omega) A
        have hone : valM s j = V.val (s.data.toList.take j) % 18446744073709551616 := rfl
        have has := fun y => HAS.out (by omega) y
        generalize acc s[0].toNat j (s.data.toList.drop 1) (j - 1) = A at *
        have hcm := hcp A rfl
        clear hcp
        rw [hva] at hone
        clear hva
        obtain ⟨t, ht⟩ : ∃ t, t = str (V.enc A) := ⟨_, rfl⟩
        have hvb := fun w => vbytes_any A w hal
        unfold TextPost at hvb
        rw [← ht] at hvb
        have HB := Lib.hid hvb
        have HT := Lib.hid ht
        have HR := Lib.hid hrd
        clear hrd hvb ht
        by_cases h9 : j < 9
        · have hld0 : V.ld j * 256 ^ (j - 1) < 18446744073709551616 := pow_bd j k1 (by omega) (j - 1) (by omega)
          have hAs : A + V.ld j * 256 ^ (j - 1) < 18446744073709551616 := has h9
          have hm : valM s j = A + V.ld j * 256 ^ (j - 1) := by rw [hone]; exact Nat.mod_eq_of_lt hAs
          rw [hm]
          have hle : V.ld j * 256 ^ (j - 1) ≤ A + V.ld j * 256 ^ (j - 1) := by omega
          clear hm hone has
          generalize hN : A + V.ld j * 256 ^ (j - 1) = N at *
          have HN := Lib.hid hN
          clear hN
          go_wp2_with fail
          go_loop [8, 9] (fun o i => ∃ q : Nat, q ≤ j - 1 ∧ o = .int .u64 (V.ld (q + 1)) ∧ i = .int .i64 q) (fun _ i => j - (intOf i).toNat)
          case atStart => exact ⟨0, by omega, rfl, rfl⟩
          case round =>
            obtain ⟨q, hq, rfl, rfl⟩ := hrel
            by_cases hlt2 : q < j - 1
            · have HLD := Lib.hid (ld_step (q + 1) (by omega) (by omega))
              have hld : V.ld (q + 1) ≤ 256 := Nat.sub_le _ _
              generalize V.ld (q + 1) = d at *
              go_wp2_with fail
              refine ⟨⟨q + 1, by omega, by rw [HLD.out]; simp, by go_num⟩, by simp [intOf]; omega⟩
            · obtain rfl : q = j - 1 := by omega
              have hqj : j - 1 + 1 = j := by omega
              rw [hqj]
              clear hqj
              go_wp2_with fail
              go_loop [8, 10] (fun o i => ∃ p : Nat, 1 ≤ p ∧ p ≤ j ∧ o = .int .u64 (V.ld j * 256 ^ (p - 1) : Nat) ∧ i = .int .i64 p) (fun _ i => j - (intOf i).toNat)
              case atStart => exact ⟨1, by omega, by omega, by simp, rfl⟩
              case round =>
                obtain ⟨p, hp1, hpj, rfl, rfl⟩ := hrel
                by_cases hlt3 : p < j
                · have HP := Lib.hid (show V.ld j * 256 ^ (p + 1 - 1) = V.ld j * 256 ^ (p - 1) * 256 by
                    rw [Nat.mul_assoc, ← Nat.pow_succ]; congr 2; omega)
                  have hpb : V.ld j * 256 ^ (p - 1) * 256 < 18446744073709551616 := by rw [← HP.out]; exact pow_bd j k1 (by omega) _ (by omega)
                  generalize V.ld j * 256 ^ (p - 1) = D at *
                  go_wp2_with fail
                  refine ⟨⟨p + 1, by omega, by omega, by rw [HP.out]; simp, by go_num⟩, by simp [intOf]; omega⟩
                · obtain rfl : p = j := by omega
                  have hsub : ((N : Int) - ((V.ld p * 256 ^ (p - 1) : Nat) : Int)) = (A : Int) := by rw [← HN.out]; omega
                  generalize V.ld p * 256 ^ (p - 1) = D at *
                  by_cases hz : V.sz A < p
                  · have hne : (t.toList == (s.extract 0 p).toList) = false := by rw [beq_eq_false_iff_ne, HT.out, str_toList, ByteArray.toList_eq, take_data]; exact hcm.1 hz
                    have HZ := Lib.hid (HR.out.trans (if_pos hz))
                    clear hcm hz
                    go_wp2_with fail
                    go_region_held3 (fun _ => True) (exact trivial) (first | (go_at_call 15; refine (HB.out _).mono ?_; rintro e w2 ⟨rfl, hb2⟩))
                    go_wp2_with fail
                    go_ret3
                    exact ⟨by rw [HZ.out]; rfl, (Below.refl _ _).drew.trans hb2⟩
                  · have hne : (t.toList == (s.extract 0 p).toList) = true := by rw [beq_iff_eq, HT.out, str_toList, ByteArray.toList_eq, take_data]; exact hcm.2 hz
                    have HZ := Lib.hid (HR.out.trans (if_neg hz))
                    clear hcm hz
                    go_wp2_with fail
                    go_region_held3 (fun _ => True) (exact trivial) (first | (go_at_call 15; refine (HB.out _).mono ?_; rintro e w2 ⟨rfl, hb2⟩))
                    go_wp2_with fail
                    go_ret3
                    exact ⟨by rw [HZ.out]; rfl, (Below.refl _ _).drew.trans hb2⟩
        · have hm : valM s j = A := by
            rw [hone, show j = 9 from by omega]
            simp only [V.ld, Nat.reduceSub, Nat.reducePow]
            omega
          rw [hm]
          clear hm hone
          by_cases hz : V.sz A < j
          · have hne : (t.toList == (s.extract 0 j).toList) = false := by rw [beq_eq_false_iff_ne, HT.out, str_toList, ByteArray.toList_eq, take_data]; exact hcm.1 hz
            have HZ := Lib.hid (HR.out.trans (if_pos hz))
            clear hcm hz
            go_wp2_with fail
            go_region_held3 (fun _ => True) (exact trivial) (first | (go_at_call 15; refine (HB.out _).mono ?_; rintro e w2 ⟨rfl, hb2⟩))
            go_wp2_with fail
            go_ret3
            exact ⟨by rw [HZ.out]; rfl, (Below.refl _ _).drew.trans hb2⟩
          · have hne : (t.toList == (s.extract 0 j).toList) = true := by rw [beq_iff_eq, HT.out, str_toList, ByteArray.toList_eq, take_data]; exact hcm.2 hz
            have HZ := Lib.hid (HR.out.trans (if_neg hz))
            clear hcm hz
            go_wp2_with fail
            go_region_held3 (fun _ => True) (exact trivial) (first | (go_at_call 15; refine (HB.out _).mono ?_; rintro e w2 ⟨rfl, hb2⟩))
            go_wp2_with fail
            go_ret3
            exact ⟨by rw [HZ.out]; rfl, (Below.refl _ _).drew.trans hb2⟩
end Go.Proofs.YtcachhnhncodoaaGreat
namespace Go.Proofs.YtcachhnhncodoaaGreat
open Go.RowKit
set_option linter.unusedVariables false
def AllPostC (r : List Nat × Nat) (w : World) (e : Ending) (w' : World) : Prop :=
  ∃ a c, e = .returned (.tuple #[.slice a r.1.length c, .int .i64 r.2]) ∧ Nums w' w'.heap.size a r.1 ∧ r.1.length ≤ c ∧ c ≤ maxLen ∧ Below w.heap.size w w'
theorem numRow_numsc {B : Nat} {xs : List Nat} {v : Value} {w : World} (h : NumRow B xs v w) : ∃ a c, v = .slice a xs.length c ∧ Nums w w.heap.size a xs ∧ xs.length ≤ c ∧ c ≤ maxLen := by
  have h' := h
  unfold NumRow at h
  rcases h.2 with ⟨rfl, h0⟩ | ⟨g, cap, cur, rfl, e2, e3, e4, e5, _⟩
  · refine ⟨none, 0, by rw [h0], ?_, by omega, by unfold maxLen; omega⟩
    rw [List.eq_nil_of_length_eq_zero h0]; exact Nums.nil _ _ _
  · obtain ⟨a, c, e, hn⟩ := numRow_nums h'
    injection e with x1 x2 x3
    subst x1 x3
    exact ⟨_, _, rfl, hn, e4, e5⟩
theorem OwnB.numsc {base B : Nat} {w : World} {xs : List Nat} (h : OwnB base B w xs) : ∃ a c, w.cell? ⟨B, 0, none⟩ = some (.slice a xs.length c) ∧ Nums w w.heap.size a xs ∧ xs.length ≤ c ∧ c ≤ maxLen := by
  obtain ⟨h0, v, hv, hown⟩ := h
  obtain ⟨a, c, rfl, hn, h1, h2⟩ := numRow_numsc hown
  exact ⟨a, c, cell_of_one hv, hn, h1, h2⟩
theorem unpR_eq (d : List UInt8) (m n : Nat) (hm : m ≤ 64) (hn : n ≤ 64) (hd : d.length = B.sz (m * n)) : unpR d m n = if B.leN d / 2 ^ (m * n) ≠ 0 then ([], 1) else (B.dg n m (B.leN d), 0) := by
  have e : chkR d m n = if B.leN d / 2 ^ (m * n) ≠ 0 then 1 else 0 := by
    unfold chkR
    rw [if_neg (by omega), if_neg (by omega), Int.toNat_natCast, Int.toNat_natCast]
    unfold chkF
    simp [hd]
  unfold unpR
  by_cases h : B.leN d / 2 ^ (m * n) ≠ 0
  · rw [e, if_pos h, if_pos h]; rfl
  · rw [e, if_neg h, if_neg h, if_pos rfl, Int.toNat_natCast, Int.toNat_natCast]
set_option maxHeartbeats 1000000 in
set_option maxRecDepth 100000 in
theorem unpackc_any (s : ByteArray) (many wide : Int) (w : World) (hs : s.size ≤ maxLen) :
    Calls Tryz.prog 118 #[.string s, .int .i64 many, .int .i64 wide] w (AllPostC (unpR s.data.toList many wide) w) := by
  have hmf : ∀ (fn : Fn) (first cap : Array Value) (w : World), (Instr.makeFunc fn first cap).run Tryz.prog w = .ok (.func fn first cap) w := fun _ _ _ _ => rfl
  obtain ⟨i0, hi, hz0, hz1, hz2⟩ := info_parts info_u64
  have hck := fun w => check_any s many wide w hs
  by_cases hc : chkR s.data.toList many wide = 0
  · obtain ⟨m, n, rfl, rfl, hm, hn, hl, hq⟩ := chk_zero _ _ _ hc
    have HR := Lib.hid (show unpR s.data.toList m n = (B.dg n m (B.leN s.data.toList), 0) by rw [unpR, if_pos hc]; simp)
    rw [hc] at hck
    have HCK := Lib.hid hck
    rw [len_data] at hl
    have hmn : m * n ≤ 64 * 64 := Nat.mul_le_mul hm hn
    have h8 : m * n ≤ 8 * s.size ∧ s.size ≤ 4096 := by rw [hl]; unfold B.sz; omega
    have HBE := Lib.hid (fun base Bk w ho => beach_any base Bk s m n w hn hm h8.1 h8.2 ho)
    clear hck hc hq hl hmn h8
    generalize B.dg n m (B.leN s.data.toList) = xs at *
    go_enter Tryz.func118, Tryz.ntmps118
    go_wp2_with fail
    refine (HCK.out _).mono ?_
    rintro e w1 ⟨rfl, rfl⟩
    go_wp2_with (at_make; refine wpList_make_own _ rfl _ _ 44 rfl w.heap.size 34 i0 (.int .u64 0) 1 Tryz.underlying44 hi hz0 hz1 .i64 .i64 _ m rfl rfl rfl (by rw [hz2]; omega) (by unfold maxLen; omega) (Nat.le_refl _) ?_; intro w0 hown0 hgrow0)
    have hb0 : Below w.heap.size w w0 := (Below.refl _ _).grown hgrow0 (Nat.le_refl _) (fun k hk => by cases hk)
    have hob : OwnB w.heap.size w0.heap.size (w0.alloc (.cells #[.slice (some ⟨w.heap.size, 0, none⟩) 0 m] 44)) [] :=
      ⟨hb0.size, _, heap_alloc_new w0 _, hown0.alloc _⟩
    clear hown0 hgrow0
    go_wp2_with fail
    refine (HBE.out w.heap.size w0.heap.size _ hob).mono ?_
    rintro e w2 ⟨rfl, ho2, hb2⟩
    obtain ⟨a, c, hcell, hnum, hlc, hcm⟩ := ho2.numsc
    go_wp2_with fail
    go_ret2
    rw [HR.out]
    exact ⟨a, c, rfl, hnum, hlc, hcm, (hb0.alloc hb0.size _).trans hb2⟩
  · have HR := Lib.hid (show unpR s.data.toList many wide = ([], chkR s.data.toList many wide) by rw [unpR, if_neg hc])
    have g1 : ((chkR s.data.toList many wide : Int) != 0) = true := by rw [bne_iff_ne]; omega
    generalize chkR s.data.toList many wide = er at *
    have HCK := Lib.hid hck
    clear hck hc
    go_enter Tryz.func118, Tryz.ntmps118
    go_wp2_with fail
    refine (HCK.out _).mono ?_
    rintro e w1 ⟨rfl, rfl⟩
    go_wp2_with fail
    go_ret2
    rw [HR.out]
    exact ⟨none, 0, rfl, Nums.nil _ _ _, Nat.le_refl _, by unfold maxLen; omega, Below.refl _ _⟩
end Go.Proofs.YtcachhnhncodoaaGreat
namespace Go.Proofs.YtcachhnhncodoaaGreat
open Go.RowKit
set_option linter.unusedVariables false
theorem one_nums2 {W : World} {b off n : Nat} (hc : W.cell? ⟨b, off, none⟩ = some (.int .u64 (n : Int))) : Nums W W.heap.size (some ⟨b, off, none⟩) [n] := by
  intro _
  refine ⟨b, off, rfl, World.block_lt_of_cell? W _ hc, fun i hi => ?_⟩
  have : i = 0 := by simpa using hi
  subst this
  simpa using hc
set_option maxHeartbeats 4000000 in
set_option maxRecDepth 100000 in
theorem hbytes_some (b off c : Nat) (l : List Nat) (n : Nat) (w : World) (hl : l.length ≤ 1048576) (hcap : l.length ≤ c) (hcm : c ≤ maxLen) (hn : n ≤ 64) (hf : ∀ x ∈ l, x < 2 ^ n) (hb : b < w.heap.size)
    (hc : ∀ i, i < l.length → w.cell? ⟨b, off + i, none⟩ = some (.int .u64 ((l.getD i 0 : Nat) : Int))) :
    Calls Tryz.prog 100 #[.slice (some ⟨b, off, none⟩) l.length c, .int .i64 n] w (TextPost (H.bytes n l) w) := by
  unfold maxLen at hcm
  have hbl := H.bytes_len n l
  have hmul : (18 + n) * l.length ≤ (18 + 64) * 1048576 := Nat.mul_le_mul (by omega) hl
  have HTL := Lib.hid (show (H.bytes n l).length ≤ 85983232 by omega)
  have h64 : ∀ x, x < 2 ^ n → x < 18446744073709551616 := fun x hx => Nat.lt_of_lt_of_le hx (Nat.pow_le_pow_right (n := 2) (by omega) hn)
  have HF := Lib.hid hf
  have HC := Lib.hid hc
  have H64 := Lib.hid h64
  clear hbl hmul hf hc h64
  go_enter Tryz.func100, Tryz.ntmps100
  go_wp2_with fail
  go_loopw [5, 6, 7, 8, 9] (fun s i _ _ _ wr => ∃ (p : Nat) (cur : List UInt8), p ≤ l.length + 8 ∧ i = .int .i64 p ∧ s = .string (str cur) ∧ Hid (cur ++ H.bytes n (l.drop p) = H.bytes n l) ∧ Below w.heap.size w wr) (fun _ i _ _ _ _ => l.length + 8 - (intOf i).toNat)
  case atStart => exact ⟨0, [], by omega, rfl, rfl, Lib.hid (by simp), Below.refl _ _⟩
  case round =>
    obtain ⟨p, cur, hp, rfl, rfl, HB, hbw⟩ := hrel
    have hcl : cur.length ≤ 85983232 := by have := HTL.out; rw [← HB.out, List.length_append] at this; omega
    by_cases hlt : p < l.length
    · have hsf := fun w' (h : Below w.heap.size w w') => sameFrom_any b off c l p w' hl hlt (fun i hi => (h.cell (p := ⟨b, off + i, none⟩) hb).trans (HC.out i hi))
      have hne : l.drop p ≠ [] := fun e => by have := congrArg List.length e; rw [List.length_drop] at this; simp at this; omega
      have hrp := H.row_pos _ hne
      have hrl := H.row_le (l.drop p)
      rw [List.length_drop] at hrl
      have HRUN := Lib.hid (fun h8 => H.bytes_run n (l.drop p) hne h8)
      have HBLK := Lib.hid (fun h8 => H.bytes_blk n (l.drop p) hne h8)
      have hhd : (l.drop p).headD 0 = l.getD p 0 := by
        rw [List.drop_eq_getElem_cons hlt]; simp [List.getD, List.getElem?_eq_getElem hlt]
      have hx0 : (l.drop p).headD 0 < 2 ^ n := by rw [hhd]; exact HF.out _ (getD_mem l p hlt)
      have HSTEP := Lib.hid (fun q h => H.pad_step l q h)
      have hr : H.row (l.drop p) = H.row (l.drop p) := rfl
      obtain ⟨r, hre⟩ : ∃ r, r = H.row (l.drop p) := ⟨_, rfl⟩
      have HSF := Lib.hid (fun q (hq : q < l.length) w' (h : Below w.heap.size w w') => sameFrom_any b off c l q w' hl hq (fun i hi => (h.cell (p := ⟨b, off + i, none⟩) hb).trans (HC.out i hi)))
      have hsf1 := hsf wr hbw
      rw [← hre] at hsf1 hrp hrl HRUN HBLK
      have HSF1 := Lib.hid hsf1
      have HRE := Lib.hid hre
      clear hsf hsf1 hr hre
      by_cases h8 : 8 ≤ r
      · have g1 : decide ((8 : Int) ≤ (r : Int)) = true := by simp; omega
        obtain ⟨tc, htc⟩ : ∃ tc, tc = str cur := ⟨_, rfl⟩
        obtain ⟨t1, ht1⟩ : ∃ t1, t1 = str (V.enc (2 * r)) := ⟨_, rfl⟩
        obtain ⟨t2, ht2⟩ : ∃ t2, t2 = str (H.pkd n [(l.drop p).headD 0]) := ⟨_, rfl⟩
        have hs0 : tc.size ≤ 85983232 := by rw [htc, str_size]; exact hcl
        have hs1 : t1.size ≤ 9 := by rw [ht1, str_size, V.enc_length]; exact V.sz_le _
        have hs2 : t2.size ≤ 8 := by rw [ht2, str_size, H.pkd_length]; unfold B.sz; simp; omega
        have hcat1 : ¬ 9223372036854775807 < t1.size + t2.size := by omega
        have hcat2 : ¬ 9223372036854775807 < tc.size + (t1.size + t2.size) := by omega
        have HSUM := Lib.hid (show tc ++ (t1 ++ t2) = str (cur ++ H.Part.bytes n (.run ((l.drop p).headD 0) r)) by rw [htc, ht1, ht2, str_append, str_append]; rfl)
        have HVB := Lib.hid (fun w => show Calls Tryz.prog 15 #[.int .u64 ((2 * r : Nat) : Int)] w (fun e w' => e = .returned (.string t1) ∧ Below w.heap.size w w') by rw [ht1]; exact vbytes_any (2 * r) w (by omega))
        have HPK := Lib.hid (fun W c' (h : Below w.heap.size w W) => show Calls Tryz.prog 35 #[.slice (some ⟨b, off + p, none⟩) 1 c', .int .i64 n] W (fun e w' => e = .returned (.string t2) ∧ Below W.heap.size W w') by
          rw [ht2]
          have hcell := (h.cell (p := ⟨b, off + p, none⟩) hb).trans (HC.out p hlt)
          rw [← hhd] at hcell
          exact packedL_any (some ⟨b, off + p, none⟩) c' [(l.drop p).headD 0] n W (by simp) hn (by simpa using hx0) (by simpa using H64.out _ hx0) (one_nums2 hcell))
        have HR8 := Lib.hid (HRUN.out h8)
        have hw2 : IntKind.u64.wrap (2 * (r : Int)) = ((2 * r : Nat) : Int) := by rw [IntKind.wrap_u64]; omega
        have hi2 : IntKind.i64.wrap (2 * (r : Int)) = 2 * (r : Int) := by rw [IntKind.wrap_i64]; omega
        have hp1 : IntKind.i64.wrap ((p : Int) + 1) = (p : Int) + 1 := by rw [IntKind.wrap_i64]; omega
        have hp0 : (0 : Int) ≤ (p : Int) + 1 := by omega
        have hpt : ((p : Int) + 1).toNat = p + 1 := by omega
        have hpm : p + 1 - p = 1 := by omega
        have hpI : (0 : Int) ≤ (p : Int) := by omega
        have hpq : (p : Int) ≤ (p : Int) + 1 := by omega
        have hqc : (p : Int) + 1 ≤ (c : Int) := by omega
        have hcp : ¬ c = p := by omega
        have hpr : IntKind.i64.wrap ((p : Int) + (r : Int)) = (p : Int) + (r : Int) := by rw [IntKind.wrap_i64]; omega
        have HDD := Lib.hid (show (l.drop p).drop r = l.drop (p + r) from List.drop_drop)
        rw [← htc]
        generalize (l.drop p).headD 0 = x at *
        clear ht1 ht2 htc hhd hne hcl HRUN HBLK HSTEP HSF
        go_wp2_with fail
        refine (HSF1.out).mono ?_
        rintro e w1 ⟨rfl, hb1⟩
        have hbw1 := hbw.trans (hb1.mono hbw.size)
        go_wp2_with fail
        go_region_held3 (fun W => True) (exact trivial)
          (first
            | (go_at_call 15; refine (HVB.out _).mono ?_; rintro e w3 ⟨rfl, hb3⟩)
            | (go_at_call 35; refine (HPK.out _ _ (below_then hbw1.drew hb3)).mono ?_; rintro e w4 ⟨rfl, hb4⟩))
        all_goals
          go_wp2_with fail
          refine ⟨⟨p + r, cur ++ H.Part.bytes n (.run x r), by omega, by simp, by rw [← HSUM.out], Lib.hid ?_, below_then (below_then hbw1.drew hb3) hb4⟩, by simp [intOf]; omega⟩
          rw [List.append_assoc, ← HDD.out, ← HR8.out]; exact HB.out
      · have g1 : decide ((8 : Int) ≤ (r : Int)) = false := by simp; omega
        have HB8 := Lib.hid (HBLK.out h8)
        have hlo1 := H.loose_pos (l.drop p) (fun e => e.elim hne (fun e => by rw [← HRE.out] at e; exact h8 e))
        have hlp := H.loose_le (l.drop p)
        rw [List.length_drop] at hlp
        have HPL := Lib.hid (show (H.pad ((l.drop p).take (H.loose (l.drop p)))).length = H.nb (H.loose (l.drop p)) * 8 by
          rw [H.pad_length, List.length_take, List.length_drop, Nat.min_eq_left hlp])
        have hnb8 : H.nb (H.loose (l.drop p)) * 8 ≤ l.length + 7 := by unfold H.nb; omega
        have HPM := Lib.hid (H.pad_mem ((l.drop p).take (H.loose (l.drop p))) n (fun x hx => HF.out x (List.mem_of_mem_drop (List.mem_of_mem_take hx))))
        have HPB := Lib.hid (show H.Part.bytes n (.blk ((l.drop p).take (H.loose (l.drop p)))) = V.enc (2 * H.nb (H.loose (l.drop p)) + 1) ++ H.pkd n (H.pad ((l.drop p).take (H.loose (l.drop p)))) by
          simp only [H.Part.bytes]; rw [List.length_take, List.length_drop, Nat.min_eq_left hlp])
        generalize hlo : H.loose (l.drop p) = lo at *
        generalize hPD : H.pad ((l.drop p).take lo) = PD at *
        have HLO := Lib.hid hlo
        have HPD := Lib.hid hPD
        obtain ⟨tc, htc⟩ : ∃ tc, tc = str cur := ⟨_, rfl⟩
        have hs0 : tc.size ≤ 85983232 := by rw [htc, str_size]; exact hcl
        obtain ⟨K, hK⟩ : ∃ K, K = H.nb lo := ⟨_, rfl⟩
        have HK := Lib.hid hK
        rw [← hK] at hnb8 HPB
        obtain ⟨t1, ht1⟩ : ∃ t1, t1 = str (V.enc (2 * K + 1)) := ⟨_, rfl⟩
        obtain ⟨t2, ht2⟩ : ∃ t2, t2 = str (H.pkd n PD) := ⟨_, rfl⟩
        have HT2 := Lib.hid ht2
        have hs1 : t1.size ≤ 9 := by rw [ht1, str_size, V.enc_length]; exact V.sz_le _
        have hs2 : t2.size ≤ 8389121 := by
          rw [ht2, str_size, H.pkd_length, HPL.out, HK.out.symm]
          have := Nat.mul_le_mul (show K * 8 ≤ 1048584 by omega) hn
          unfold B.sz; omega
        have hcat1 : ¬ 9223372036854775807 < t1.size + t2.size := by omega
        have hcat2 : ¬ 9223372036854775807 < tc.size + (t1.size + t2.size) := by omega
        have HSUM := Lib.hid (show tc ++ (t1 ++ t2) = str (cur ++ H.Part.bytes n (.blk ((l.drop p).take lo))) by rw [htc, ht1, ht2, str_append, str_append, HPB.out])
        have HVB := Lib.hid (fun w => show Calls Tryz.prog 15 #[.int .u64 ((2 * K + 1 : Nat) : Int)] w (fun e w' => e = .returned (.string t1) ∧ Below w.heap.size w w') by rw [ht1]; exact vbytes_any (2 * K + 1) w (by omega))
        have hk2 : IntKind.i64.wrap ((K : Int) * 2) = (K : Int) * 2 := by rw [IntKind.wrap_i64]; omega
        have hk3 : IntKind.i64.wrap ((K : Int) * 2 + 1) = (K : Int) * 2 + 1 := by rw [IntKind.wrap_i64]; omega
        have hk4 : IntKind.u64.wrap ((K : Int) * 2 + 1) = ((2 * K + 1 : Nat) : Int) := by rw [IntKind.wrap_u64]; omega
        have HDD := Lib.hid (show (l.drop p).drop lo = l.drop (p + lo) from List.drop_drop)
        rw [← htc]
        clear hK ht1 ht2
        clear hlo hPD htc hhd hne hcl HRUN HBLK hx0
        go_wp2_with fail
        refine (HSF1.out).mono ?_
        rintro e w1 ⟨rfl, hb1⟩
        have hbw1 := hbw.trans (hb1.mono hbw.size)
        go_wp2_with fail
        go_loopw [6, 8, 9] (fun i v _ wr2 => ∃ (q : Nat) (xs : List Nat), p ≤ q ∧ q ≤ l.length + 7 ∧ i = .int .i64 q ∧ NumRow w.heap.size xs v wr2 ∧ Hid (xs ++ H.pad ((l.drop q).take (H.loose (l.drop q))) = PD) ∧ Hid (l.drop (q + H.loose (l.drop q)) = l.drop (p + lo)) ∧ Below w.heap.size w wr2) (fun i _ _ _ => l.length + 8 - (intOf i).toNat)
        case atStart => exact ⟨p, [], by omega, by omega, rfl, ⟨rfl, Or.inl ⟨rfl, rfl⟩⟩, Lib.hid (by rw [HLO.out, HPD.out]; rfl), Lib.hid (by rw [HLO.out]), hbw1⟩
        case round =>
          obtain ⟨q, xs, hpq, hq7, rfl, hrow, HX, HD, hbw2⟩ := hrel
          have hxl : xs.length ≤ l.length + 7 := by
            have := congrArg List.length HX.out
            rw [List.length_append, HPL.out, ← HK.out] at this; omega
          by_cases hql : q < l.length
          · have hs2 := HSF.out q hql wr hbw2
            have HST := Lib.hid (fun h => H.pad_step l q h)
            have hqne : l.drop q ≠ [] := fun e => by have := congrArg List.length e; rw [List.length_drop] at this; simp at this; omega
            obtain ⟨r2, hr2⟩ : ∃ r2, r2 = H.row (l.drop q) := ⟨_, rfl⟩
            rw [← hr2] at hs2
            have hr2b := H.row_le (l.drop q)
            rw [← hr2, List.length_drop] at hr2b
            have HS2 := Lib.hid hs2
            have HR2 := Lib.hid hr2
            clear hs2 hr2
            by_cases hr8 : r2 < 8
            · have g2 : decide ((r2 : Int) < 8) = true := by simp; omega
              have HPS := Lib.hid (HST.out (fun e => e.elim hqne (fun e => by rw [← HR2.out] at e; omega)))
              go_wp2_with fail
              refine (HS2.out).mono ?_
              rintro e w2 ⟨rfl, hb2⟩
              have hrow2 : NumRow w.heap.size xs u8 w2 := row_below hrow hb2
              have hbw3 := hbw2.trans (hb2.mono hbw2.size)
              go_wp2_with fail
              go_loopw [6, 8, 9] (fun i v kk wr3 => ∃ (k j : Nat), k ≤ 8 ∧ Hid (j = q + k) ∧ kk = .int .i64 k ∧ i = .int .i64 j ∧ NumRow w.heap.size (xs ++ H.eightK l q k) v wr3 ∧ Below w.heap.size w wr3) (fun _ _ kk _ => 8 - (intOf kk).toNat)
              case atStart => exact ⟨0, q, by omega, Lib.hid rfl, rfl, rfl, by simpa [H.eightK] using hrow2, hbw3⟩
              case round =>
                obtain ⟨k, j, hk8, HJ, rfl, rfl, hrow3, hbw4⟩ := hrel
                have hj := HJ.out
                by_cases hk : k < 8
                · have HES := Lib.hid (H.eightK_succ l q k)
                  have hxl3 : (xs ++ H.eightK l q k).length = xs.length + k := by rw [List.length_append, H.eightK_length]
                  have hjn : j ≤ l.length + 16 := by omega
                  have hlj : l.getD (q + k) 0 = l.getD j 0 := by rw [hj]
                  rw [hlj] at HES
                  generalize H.eightK l q k = ek at *
                  clear hj hlj
                  by_cases hjl : j < l.length
                  · have hcell := (hbw4.cell (p := ⟨b, off + j, none⟩) hb).trans (HC.out j hjl)
                    generalize l.getD j 0 = y at *
                    have hb5 : w.heap.size ≤ (wr.alloc (.cells #[.int .u64 (y : Int)] 34)).heap.size := by have := hbw4.size; simp; omega
                    have hrow3' : wr.ownsRow w.heap.size 34 1 u8 (xs ++ ek).length (nv (xs ++ ek)) := hrow3
                    have HROW := Lib.hid hrow3'
                    clear hrow3 hrow3'
                    go_wp2_with (at_builtin; refine wpList_append_one rfl (.tmp 54) (.tmp 59) rfl w.heap.size _ (xs ++ ek).length _ rfl (HROW.out.alloc _) wr.heap.size y rfl (World.cell?_alloc_new _ _ _ _) (by omega) hb5 ?_)
                    intro v' w5 hown5 hgrow5
                    go_wp2_with fail
                    have hbw5 : Below w.heap.size w w5 := (hbw4.alloc hbw4.size _).grown hgrow5 (by have := hbw4.size; simp; omega) (fun k hk => (HROW.out.lt k hk).1)
                    refine ⟨⟨k + 1, j + 1, by omega, Lib.hid (by have := HJ.out; omega), by go_num, by go_num, ?_, hbw5⟩, by simp [intOf]; omega⟩
                    rw [HES.out, ← List.append_assoc]
                    unfold NumRow; rw [List.length_append, hxl3]; simpa [nv, hxl3] using hown5
                  · have hl0 : l.getD j 0 = 0 := by simp [List.getD, List.getElem?_eq_none (show l.length ≤ j by omega)]
                    rw [hl0] at HES
                    have g3 : decide ((j : Int) < (l.length : Int)) = false := by simp; omega
                    have hb5 : w.heap.size ≤ (wr.alloc (.cells #[.int .u64 ((0 : Nat) : Int)] 34)).heap.size := by have := hbw4.size; simp; omega
                    have hrow3' : wr.ownsRow w.heap.size 34 1 u8 (xs ++ ek).length (nv (xs ++ ek)) := hrow3
                    have HROW := Lib.hid hrow3'
                    clear hrow3 hrow3' hl0
                    go_wp2_with (at_builtin; refine wpList_append_one rfl (.tmp 61) (.tmp 62) rfl w.heap.size _ (xs ++ ek).length _ rfl (HROW.out.alloc _) wr.heap.size 0 rfl (World.cell?_alloc_new _ _ _ _) (by omega) hb5 ?_)
                    intro v' w5 hown5 hgrow5
                    go_wp2_with fail
                    have hbw5 : Below w.heap.size w w5 := (hbw4.alloc hbw4.size _).grown hgrow5 (by have := hbw4.size; simp; omega) (fun k hk => (HROW.out.lt k hk).1)
                    refine ⟨⟨k + 1, j + 1, by omega, Lib.hid (by have := HJ.out; omega), by go_num, by go_num, ?_, hbw5⟩, by simp [intOf]; omega⟩
                    rw [HES.out, ← List.append_assoc]
                    unfold NumRow; rw [List.length_append, hxl3]; simpa [nv, hxl3] using hown5
                · obtain rfl : k = 8 := by omega
                  subst hj
                  go_wp2_with fail
                  refine ⟨⟨q + 8, xs ++ H.eightK l q 8, by omega, by omega, rfl, hrow3, Lib.hid ?_, Lib.hid ?_, hbw4⟩, by simp [intOf]; omega⟩
                  · rw [List.append_assoc, ← (HPS.out).1]; exact HX.out
                  · rw [← (HPS.out).2]; exact HD.out
            · have g2 : decide ((r2 : Int) < 8) = false := by simp; omega
              have hstop : l.drop q = [] ∨ 8 ≤ H.row (l.drop q) := Or.inr (by rw [← HR2.out]; omega)
              go_wp2_with fail
              refine (HS2.out).mono ?_
              rintro e w2 ⟨rfl, hb2⟩
              have hrow2 : NumRow w.heap.size xs u8 w2 := row_below hrow hb2
              have hbw3 := hbw2.trans (hb2.mono hbw2.size)
              clear hrow
              have hstop2 := H.pad_stop (l.drop q) hstop
              have hqp : q ≠ p := fun e => by rw [e, HLO.out] at hstop2; omega
              have hxs : xs = PD := by rw [← HX.out, hstop2.1, List.append_nil]
              have HDQ := Lib.hid (show l.drop q = l.drop (p + lo) by rw [← HD.out, hstop2.2, Nat.add_zero])
              obtain ⟨a4, c4, rfl, hnum, _, _⟩ := numRow_numsc hrow2
              have hxK : xs.length = K * 8 := by rw [hxs, HPL.out, HK.out]
              have hq8 : ((xs.length : Int) / 8) = (K : Int) := by omega
              have HPK2 := Lib.hid (fun W (h : Nums W W.heap.size a4 xs) => show Calls Tryz.prog 35 #[.slice a4 xs.length c4, .int .i64 n] W (fun e w' => e = .returned (.string t2) ∧ Below W.heap.size W w') by
                have := packedL_any a4 c4 xs n W (by omega) hn (by rw [hxs]; exact HPM.out) (fun x hx => H64.out x (by rw [hxs] at hx; exact HPM.out x hx)) h
                rw [HT2.out, ← hxs]; exact this)
              clear hstop2 hxs hxK hrow2
              go_wp2_with fail
              refine (HVB.out _).mono ?_
              rintro e w3 ⟨rfl, hb3⟩
              go_wp2_with fail
              refine (HPK2.out _ (hnum.next hb3)).mono ?_
              rintro e w4 ⟨rfl, hb4⟩
              go_wp2_with fail
              refine ⟨⟨q, cur ++ H.Part.bytes n (.blk ((l.drop p).take lo)), by omega, rfl, by rw [← HSUM.out], Lib.hid ?_, below_then (below_then hbw3 hb3) hb4⟩, by simp [intOf]; omega⟩
              rw [List.append_assoc, HDQ.out, ← HDD.out, ← HB8.out]; exact HB.out
          · have hstop : l.drop q = [] ∨ 8 ≤ H.row (l.drop q) := Or.inl (List.drop_eq_nil_of_le (by omega))
            have g3 : decide ((q : Int) < (l.length : Int)) = false := by simp; omega
            have hstop2 := H.pad_stop (l.drop q) hstop
            have hqp : q ≠ p := fun e => by rw [e, HLO.out] at hstop2; omega
            have hxs : xs = PD := by rw [← HX.out, hstop2.1, List.append_nil]
            have HDQ := Lib.hid (show l.drop q = l.drop (p + lo) by rw [← HD.out, hstop2.2, Nat.add_zero])
            obtain ⟨a4, c4, rfl, hnum, _, _⟩ := numRow_numsc hrow
            have hxK : xs.length = K * 8 := by rw [hxs, HPL.out, HK.out]
            have hq8 : ((xs.length : Int) / 8) = (K : Int) := by omega
            have HPK2 := Lib.hid (fun W (h : Nums W W.heap.size a4 xs) => show Calls Tryz.prog 35 #[.slice a4 xs.length c4, .int .i64 n] W (fun e w' => e = .returned (.string t2) ∧ Below W.heap.size W w') by
              have := packedL_any a4 c4 xs n W (by omega) hn (by rw [hxs]; exact HPM.out) (fun x hx => H64.out x (by rw [hxs] at hx; exact HPM.out x hx)) h
              rw [HT2.out, ← hxs]; exact this)
            clear hstop2 hxs hxK hrow
            go_wp2_with fail
            refine (HVB.out _).mono ?_
            rintro e w3 ⟨rfl, hb3⟩
            go_wp2_with fail
            refine (HPK2.out _ (hnum.next hb3)).mono ?_
            rintro e w4 ⟨rfl, hb4⟩
            go_wp2_with fail
            refine ⟨⟨q, cur ++ H.Part.bytes n (.blk ((l.drop p).take lo)), by omega, rfl, by rw [← HSUM.out], Lib.hid ?_, below_then (below_then hbw2 hb3) hb4⟩, by simp [intOf]; omega⟩
            rw [List.append_assoc, HDQ.out, ← HDD.out, ← HB8.out]; exact HB.out
    · have hnil : l.drop p = [] := List.drop_eq_nil_of_le (by omega)
      have hB := HB.out
      rw [hnil, H.bytes_nil, List.append_nil] at hB
      subst hB
      have g1 : decide ((p : Int) < (l.length : Int)) = false := by simp; omega
      go_wp2_with fail
      go_ret
      exact ⟨rfl, hbw⟩
set_option maxHeartbeats 400000 in
theorem hbytes_nil (a : Option Addr) (c : Nat) (n : Int) (w : World) :
    Calls Tryz.prog 100 #[.slice a 0 c, .int .i64 n] w (TextPost [] w) := by
  go_enter Tryz.func100, Tryz.ntmps100
  go_wp2_with fail
  refine wp_loop_rounds 1 ?_
  rw [rounds_succ]
  go_wp2_with fail
  go_ret
  exact ⟨rfl, Below.refl _ _⟩
theorem hbytes_any (a : Option Addr) (c : Nat) (l : List Nat) (n : Nat) (w : World) (hl : l.length ≤ 1048576) (hcap : l.length ≤ c) (hcm : c ≤ maxLen) (hn : n ≤ 64) (hf : ∀ x ∈ l, x < 2 ^ n) (hu : Nums w w.heap.size a l) :
    Calls Tryz.prog 100 #[.slice a l.length c, .int .i64 n] w (TextPost (H.bytes n l) w) := by
  by_cases h : l = []
  · subst h; exact hbytes_nil a c n w
  · obtain ⟨b, off, rfl, hb, hc⟩ := hu h
    exact hbytes_some b off c l n w hl hcap hcm hn hf hb hc
end Go.Proofs.YtcachhnhncodoaaGreat
namespace Go.Proofs.YtcachhnhncodoaaGreat.D
set_option linter.unusedVariables false
def fd (b x : Nat) : Nat × Nat := (x, (x + (18446744073709551616 - b)) % 18446744073709551616)
def fs (b x : Nat) : Nat × Nat := ((b + x) % 18446744073709551616, (b + x) % 18446744073709551616)
def zig (n : Nat) : Nat := if n < 9223372036854775808 then 2 * n else 2 * (18446744073709551616 - n) - 1
def zag (n : Nat) : Nat := if n % 2 = 0 then n / 2 else 18446744073709551616 - 1 - n / 2
def fzig (b x : Nat) : Nat × Nat := (b, zig x)
def fzag (b x : Nat) : Nat × Nat := (b, zag x)
def runF (f : Nat → Nat → Nat × Nat) (b : Nat) : List Nat → List Nat
  | [] => []
  | x :: l => (f b x).2 :: runF f (f b x).1 l
def endF (f : Nat → Nat → Nat × Nat) (b : Nat) : List Nat → Nat
  | [] => b
  | x :: l => endF f (f b x).1 l
theorem runF_length (f : Nat → Nat → Nat × Nat) (b : Nat) (l : List Nat) : (runF f b l).length = l.length := by
  induction l generalizing b with
  | nil => rfl
  | cons x l ih => simp [runF, ih]
theorem runF_snoc (f : Nat → Nat → Nat × Nat) (b : Nat) (l : List Nat) (x : Nat) : runF f b (l ++ [x]) = runF f b l ++ [(f (endF f b l) x).2] ∧ endF f b (l ++ [x]) = (f (endF f b l) x).1 := by
  induction l generalizing b with
  | nil => simp [runF, endF]
  | cons y l ih => simp [runF, endF, ih]
theorem runF_take (f : Nat → Nat → Nat × Nat) (b : Nat) (l : List Nat) (k : Nat) (hk : k < l.length) :
    runF f b (l.take (k + 1)) = runF f b (l.take k) ++ [(f (endF f b (l.take k)) (l.getD k 0)).2] ∧ endF f b (l.take (k + 1)) = (f (endF f b (l.take k)) (l.getD k 0)).1 := by
  have e : l.take (k + 1) = l.take k ++ [l.getD k 0] := by
    rw [List.take_succ_eq_append_getElem hk]; simp [List.getD, List.getElem?_eq_getElem hk]
  rw [e]; exact runF_snoc f b (l.take k) _
theorem endF_lt (f : Nat → Nat → Nat × Nat) (hf : ∀ b x, b < 18446744073709551616 → x < 18446744073709551616 → (f b x).1 < 18446744073709551616) (b : Nat) (hb : b < 18446744073709551616) (l : List Nat) (hl : ∀ x ∈ l, x < 18446744073709551616) : endF f b l < 18446744073709551616 := by
  induction l generalizing b with
  | nil => exact hb
  | cons x l ih => exact ih _ (hf b x hb (hl x (by simp))) (fun y hy => hl y (by simp [hy]))
theorem runF_lt (f : Nat → Nat → Nat × Nat) (hf : ∀ b x, b < 18446744073709551616 → x < 18446744073709551616 → (f b x).1 < 18446744073709551616 ∧ (f b x).2 < 18446744073709551616) (b : Nat) (hb : b < 18446744073709551616) (l : List Nat) (hl : ∀ x ∈ l, x < 18446744073709551616) : ∀ y ∈ runF f b l, y < 18446744073709551616 := by
  induction l generalizing b with
  | nil => intro y hy; simp [runF] at hy
  | cons x l ih =>
    intro y hy
    have h := hf b x hb (hl x (by simp))
    rcases List.mem_cons.1 hy with rfl | hy
    · exact h.2
    · exact ih _ h.1 (fun z hz => hl z (by simp [hz])) y hy
def diffs (l : List Nat) : List Nat := runF fd 0 l
def sums (l : List Nat) : List Nat := runF fs 0 l
theorem fd_lt (b x : Nat) (hb : b < 18446744073709551616) (hx : x < 18446744073709551616) : (fd b x).1 < 18446744073709551616 ∧ (fd b x).2 < 18446744073709551616 := ⟨hx, Nat.mod_lt _ (by decide)⟩
theorem fs_lt (b x : Nat) (hb : b < 18446744073709551616) (hx : x < 18446744073709551616) : (fs b x).1 < 18446744073709551616 ∧ (fs b x).2 < 18446744073709551616 := ⟨Nat.mod_lt _ (by decide), Nat.mod_lt _ (by decide)⟩
theorem diffs_lt (l : List Nat) (hl : ∀ x ∈ l, x < 18446744073709551616) : ∀ y ∈ diffs l, y < 18446744073709551616 := runF_lt fd fd_lt 0 (by decide) l hl
theorem sums_lt (l : List Nat) (hl : ∀ x ∈ l, x < 18446744073709551616) : ∀ y ∈ sums l, y < 18446744073709551616 := runF_lt fs fs_lt 0 (by decide) l hl
theorem diffs_length (l : List Nat) : (diffs l).length = l.length := runF_length _ _ _
theorem sums_length (l : List Nat) : (sums l).length = l.length := runF_length _ _ _
theorem sums_diffsF (b : Nat) (hb : b < 18446744073709551616) (l : List Nat) (hl : ∀ x ∈ l, x < 18446744073709551616) : runF fs b (runF fd b l) = l := by
  induction l generalizing b with
  | nil => rfl
  | cons x l ih =>
    have hx : x < 18446744073709551616 := hl x (by simp)
    have e : (b + (x + (18446744073709551616 - b)) % 18446744073709551616) % 18446744073709551616 = x := by
      rw [Nat.add_mod_mod, show b + (x + (18446744073709551616 - b)) = x + 18446744073709551616 by omega, Nat.add_mod_right, Nat.mod_eq_of_lt hx]
    simp only [runF, fd, fs, e]
    rw [ih x hx (fun y hy => hl y (by simp [hy]))]
theorem sums_diffs (l : List Nat) (hl : ∀ x ∈ l, x < 18446744073709551616) : sums (diffs l) = l := sums_diffsF 0 (by decide) l hl
theorem zig_lt (n : Nat) (h : n < 18446744073709551616) : zig n < 18446744073709551616 := by unfold zig; split <;> omega
theorem zag_lt (n : Nat) (h : n < 18446744073709551616) : zag n < 18446744073709551616 := by unfold zag; split <;> omega
theorem zag_zig (n : Nat) (h : n < 18446744073709551616) : zag (zig n) = n := by unfold zig zag; split <;> split <;> omega
def zigs (l : List Nat) : List Nat := l.map zig
def zags (l : List Nat) : List Nat := l.map zag
theorem run_zig (b : Nat) (l : List Nat) : runF fzig b l = zigs l := by
  induction l with
  | nil => rfl
  | cons x l ih => simp only [runF, fzig, zigs, List.map_cons] at *; rw [ih]
theorem run_zag (b : Nat) (l : List Nat) : runF fzag b l = zags l := by
  induction l with
  | nil => rfl
  | cons x l ih => simp only [runF, fzag, zags, List.map_cons] at *; rw [ih]
theorem zags_zigs (l : List Nat) (hl : ∀ x ∈ l, x < 18446744073709551616) : zags (zigs l) = l := by
  unfold zags zigs
  rw [List.map_map]
  conv => rhs; rw [← List.map_id l]
  exact List.map_congr_left (fun x hx => zag_zig x (hl x hx))
theorem zigs_lt (l : List Nat) (hl : ∀ x ∈ l, x < 18446744073709551616) : ∀ y ∈ zigs l, y < 18446744073709551616 := by
  intro y hy
  obtain ⟨x, hx, rfl⟩ := List.mem_map.1 hy
  exact zig_lt x (hl x hx)
theorem zags_lt (l : List Nat) (hl : ∀ x ∈ l, x < 18446744073709551616) : ∀ y ∈ zags l, y < 18446744073709551616 := by
  intro y hy
  obtain ⟨x, hx, rfl⟩ := List.mem_map.1 hy
  exact zag_lt x (hl x hx)
end Go.Proofs.YtcachhnhncodoaaGreat.D
namespace Go.Proofs.YtcachhnhncodoaaGreat
open Go.RowKit
set_option linter.unusedVariables false
def UBlk (w : World) (g : Nat) (l : List Nat) : Prop := w.heap[g]? = some (.cells (nv l).toArray 34 (0, 0))
theorem UBlk.cell {w : World} {g : Nat} {l : List Nat} (h : UBlk w g l) (i : Nat) (hi : i < l.length) : w.cell? ⟨g, i, none⟩ = some (.int .u64 ((l.getD i 0 : Nat) : Int)) := by
  unfold UBlk at h
  simp [World.cell?, h, nv, List.getElem?_eq_getElem hi]
theorem UBlk.free {w : World} {g : Nat} {l : List Nat} (h : UBlk w g l) (i : Nat) : w.frozen? ⟨g, i, none⟩ = false := by
  unfold UBlk at h
  simp [World.frozen?, h]
theorem UBlk.lt {w : World} {g : Nat} {l : List Nat} (h : UBlk w g l) : g < w.heap.size := lt_of_block h
theorem UBlk.put {w : World} {g : Nat} {l : List Nat} (h : UBlk w g l) (i : Nat) (x : Nat) : UBlk (w.setCell ⟨g, i, none⟩ (.int .u64 (x : Int))) g (l.set i x) := by
  unfold UBlk at *
  simp [World.setCell, Array.getElem?_modify, h, nv, List.map_set]
theorem UBlk.nums {w : World} {g : Nat} {l : List Nat} (h : UBlk w g l) : Nums w w.heap.size (some ⟨g, 0, none⟩) l := by
  intro _
  exact ⟨g, 0, rfl, h.lt, fun i hi => by rw [Nat.zero_add]; exact h.cell i hi⟩
theorem made_ublk {w' : World} {g n B' : Nat} (h : w'.ownsRow B' 34 1 (.slice (some ⟨g, 0, none⟩) n n) n (madeCells (Value.int .u64 0).cells (n * 1)).toList) : UBlk w' g (List.replicate n 0) := by
  rcases h.2 with ⟨he, _⟩ | ⟨g', cap, cur, he, _, hh, _, _, hs, ht⟩
  · cases he
  · injection he with h1 h2 h3
    injection h1 with h1
    injection h1 with h1
    subst h1 h3
    unfold UBlk
    rw [hh]
    have e : cur = (nv (List.replicate n 0)).toArray := by
      apply Array.toList_inj.mp
      rw [List.take_of_length_le (by rw [Array.length_toList, hs]; omega)] at ht
      rw [ht]
      apply List.ext_getElem
      · simp [madeCells, nv]
      · intro i h1 h2
        simp [madeCells, nv, Value.cells, Nat.mod_one]
    rw [e]
theorem UBlk.next {w w' : World} {g : Nat} {l : List Nat} (h : UBlk w g l) (hb : Below w.heap.size w w') : UBlk w' g l := (hb.block g h.lt).trans h
theorem UBlk.alloc {w : World} {g : Nat} {l : List Nat} (h : UBlk w g l) (o : Obj) : UBlk (w.alloc o) g l := (Below.heap_alloc w o g h.lt).trans h
end Go.Proofs.YtcachhnhncodoaaGreat
namespace Go.Proofs.YtcachhnhncodoaaGreat
open Go.RowKit
set_option linter.unusedVariables false
set_option maxHeartbeats 400000 in
theorem zig_any (n : Nat) (w : World) (hn : n < 18446744073709551616) :
    Calls Tryz.prog 164 #[.int .u64 n] w fun e w' => e = .returned (.int .u64 (D.zig n)) ∧ w = w' := by
  by_cases h : n < 9223372036854775808
  · have HZ := Lib.hid (show D.zig n = 2 * n by unfold D.zig; rw [if_pos h])
    have hw : IntKind.u64.wrap (2 * (n : Int)) = 2 * (n : Int) := by rw [IntKind.wrap_u64]; omega
    have g1 : decide ((n : Int) < 9223372036854775808) = true := by simp; omega
    go_enter Tryz.func164, Tryz.ntmps164
    go_wp2_with fail
    go_ret
    exact ⟨by rw [HZ.out]; simp, rfl⟩
  · have HZ := Lib.hid (show D.zig n = 2 * (18446744073709551616 - n) - 1 by unfold D.zig; rw [if_neg h])
    have g1 : decide ((n : Int) < 9223372036854775808) = false := by simp; omega
    obtain ⟨m, hm⟩ : ∃ m, m = 2 * n - 18446744073709551616 := ⟨_, rfl⟩
    have hw : IntKind.u64.wrap (2 * (n : Int)) = (m : Int) := by rw [IntKind.wrap_u64]; omega
    obtain ⟨z, hz⟩ : ∃ z, z = 2 * (18446744073709551616 - n) - 1 := ⟨_, rfl⟩
    have hw2 : IntKind.u64.wrap (IntKind.u64.wrap (-(m : Int)) - 1) = (z : Int) := by rw [IntKind.wrap_u64, IntKind.wrap_u64]; omega
    rw [← hz] at HZ
    clear hm hz
    go_enter Tryz.func164, Tryz.ntmps164
    go_wp2_with fail
    go_ret
    exact ⟨by rw [HZ.out]; rfl, rfl⟩
set_option maxHeartbeats 400000 in
theorem zag_any (n : Nat) (w : World) (hn : n < 18446744073709551616) :
    Calls Tryz.prog 177 #[.int .u64 n] w fun e w' => e = .returned (.int .u64 (D.zag n)) ∧ w = w' := by
  obtain ⟨q, hq⟩ : ∃ q, q = n / 2 := ⟨_, rfl⟩
  have hqI : ((n : Int) / 2) = (q : Int) := by omega
  by_cases h : n % 2 = 0
  · have HZ := Lib.hid (show D.zag n = q by unfold D.zag; rw [if_pos h, hq])
    have g1 : ((n : Int) % 2 == 0) = true := by rw [beq_iff_eq]; omega
    clear hq
    go_enter Tryz.func177, Tryz.ntmps177
    go_wp2_with fail
    go_ret
    exact ⟨by rw [HZ.out]; rfl, rfl⟩
  · obtain ⟨z, hz⟩ : ∃ z, z = 18446744073709551616 - 1 - q := ⟨_, rfl⟩
    have HZ := Lib.hid (show D.zag n = z by unfold D.zag; rw [if_neg h, hz, hq])
    have g1 : ((n : Int) % 2 == 0) = false := by rw [beq_eq_false_iff_ne]; omega
    have hw2 : IntKind.u64.wrap (IntKind.u64.wrap (-(q : Int)) - 1) = (z : Int) := by rw [IntKind.wrap_u64, IntKind.wrap_u64]; omega
    clear hq hz
    go_enter Tryz.func177, Tryz.ntmps177
    go_wp2_with fail
    go_ret
    exact ⟨by rw [HZ.out]; rfl, rfl⟩
set_option maxHeartbeats 400000 in
theorem dclos_any (B b x : Nat) (w : World) (hB : Boxed w B 34 (.int .u64 b)) (hb : b < 18446744073709551616) (hx : x < 18446744073709551616) :
    Calls Tryz.prog 187 #[.int .u64 x, .pointer (some ⟨B, 0, none⟩)] w fun e w' => e = .returned (.int .u64 (D.fd b x).2) ∧ w' = w.setCell ⟨B, 0, none⟩ (.int .u64 (D.fd b x).1) := by
  have c0 := hB.cell
  have f0 := hB.frozen
  have hw : IntKind.u64.wrap ((x : Int) - (b : Int)) = (((x + (18446744073709551616 - b)) % 18446744073709551616 : Nat) : Int) := by rw [IntKind.wrap_u64]; omega
  unfold D.fd
  dsimp only
  generalize (x + (18446744073709551616 - b)) % 18446744073709551616 = z at *
  go_enter Tryz.func187, Tryz.ntmps187
  go_wp2_with fail
  go_ret
  exact ⟨rfl, rfl⟩
set_option maxHeartbeats 400000 in
theorem sclos_any (B b x : Nat) (w : World) (hB : Boxed w B 34 (.int .u64 b)) (hb : b < 18446744073709551616) (hx : x < 18446744073709551616) :
    Calls Tryz.prog 195 #[.int .u64 x, .pointer (some ⟨B, 0, none⟩)] w fun e w' => e = .returned (.int .u64 (D.fs b x).2) ∧ w' = w.setCell ⟨B, 0, none⟩ (.int .u64 (D.fs b x).1) := by
  have c0 := hB.cell
  have f0 := hB.frozen
  have hw : IntKind.u64.wrap ((b : Int) + (x : Int)) = (((b + x) % 18446744073709551616 : Nat) : Int) := by rw [IntKind.wrap_u64]; omega
  unfold D.fs
  dsimp only
  generalize (b + x) % 18446744073709551616 = z at *
  have c1 : (w.setCell ⟨B, 0, none⟩ (.int .u64 (z : Int))).cell? ⟨B, 0, none⟩ = some (.int .u64 (z : Int)) := (hB.set (.int .u64 z)).cell
  go_enter Tryz.func195, Tryz.ntmps195
  go_wp2_with fail
  go_ret
  exact ⟨rfl, rfl⟩
end Go.Proofs.YtcachhnhncodoaaGreat
namespace Go.Proofs.YtcachhnhncodoaaGreat
open Go.RowKit
set_option linter.unusedVariables false
def NumsC (l : List Nat) (B : Nat) (w : World) (e : Ending) (w' : World) : Prop :=
  ∃ a c, e = .returned (.slice a l.length c) ∧ Nums w' w'.heap.size a l ∧ l.length ≤ c ∧ c ≤ maxLen ∧ Below B w w'
theorem grown_set (W : World) (g k : Nat) (v : Value) : W.grownBy (W.setCell ⟨g, k, none⟩ v) (some g) :=
  ⟨rfl, rfl, rfl, by simp [World.setCell], fun j hj hne => by
    have hne' : ¬ g = j := fun e => hne (by rw [e])
    simp [World.setCell, Array.getElem?_modify, hne']⟩
theorem ublk_step (f : Nat → Nat → Nat × Nat) (b : Nat) (l : List Nat) (k : Nat) (hk : k < l.length) :
    (D.runF f b (l.take k) ++ List.replicate (l.length - k) 0).set k (f (D.endF f b (l.take k)) (l.getD k 0)).2 = D.runF f b (l.take (k + 1)) ++ List.replicate (l.length - (k + 1)) 0 := by
  have hlen : (D.runF f b (l.take k)).length = k := by rw [D.runF_length, List.length_take]; omega
  rw [(D.runF_take f b l k hk).1, List.set_append_right _ _ (by omega), hlen, Nat.sub_self, show l.length - k = (l.length - (k + 1)) + 1 by omega, List.replicate_succ, List.set_cons_zero, List.append_assoc]
  rfl
theorem ublk_len (f : Nat → Nat → Nat × Nat) (b : Nat) (l : List Nat) (k : Nat) (hk : k ≤ l.length) : (D.runF f b (l.take k) ++ List.replicate (l.length - k) 0).length = l.length := by
  rw [List.length_append, D.runF_length, List.length_take, List.length_replicate]; omega
set_option maxHeartbeats 2000000 in
set_option maxRecDepth 100000 in
theorem along_d (w : World) (base B b0 : Nat) (hbB : base ≤ B) (hB : Boxed w B 34 (.int .u64 b0)) (hb0 : b0 < 18446744073709551616) (a : Option Addr) (c : Nat) (l : List Nat) (hl : l.length ≤ 64) (hx : ∀ x ∈ l, x < 18446744073709551616) (hu : Nums w base a l) :
    Calls Tryz.prog 163 #[.slice a l.length c, .func (.func 187) #[] #[.pointer (some ⟨B, 0, none⟩)]] w (NumsC (D.runF D.fd b0 l) base w) := by
  obtain ⟨i0, hi, hz0, hz1, hz2⟩ := info_parts info_u64
  have HU := Lib.hid hu
  have HX := Lib.hid hx
  have HST := Lib.hid (fun k hk => ublk_step D.fd b0 l k hk)
  have HLN := Lib.hid (fun k hk => ublk_len D.fd b0 l k hk)
  have HTK := Lib.hid (fun k hk => D.runF_take D.fd b0 l k hk)
  have HRL := Lib.hid (D.runF_length D.fd b0 l)
  have HEL := Lib.hid (fun k => D.endF_lt D.fd (fun b x hb hx => (D.fd_lt b x hb hx).1) b0 hb0 (l.take k) (fun x h => hx x (List.mem_of_mem_take h)))
  have hBlt := hB.lt
  have hbs : base ≤ w.heap.size := by omega
  clear hu hx
  go_enter Tryz.func163, Tryz.ntmps163
  go_wp2_with (at_make; refine wpList_make_full _ rfl _ _ 44 rfl w.heap.size 34 i0 (.int .u64 0) 1 Tryz.underlying44 hi hz0 hz1 .i64 .i64 _ _ l.length rfl rfl rfl rfl (by rw [hz2]; omega) (by unfold maxLen; omega) (Nat.le_refl _) ?_; intro w0 hown0 hgrow0)
  have hb0w : Below w.heap.size w w0 := (Below.refl _ _).grown hgrow0 (Nat.le_refl _) (fun k hk => by cases hk)
  have hblk := made_ublk hown0
  obtain ⟨g, hg⟩ : ∃ g, g = w.heap.size := ⟨_, rfl⟩
  rw [← hg] at hblk ⊢
  have hgl : w.heap.size ≤ g := by omega
  clear hg hown0 hgrow0
  have hB0 : Boxed w0 B 34 (.int .u64 b0) := (hb0w.block B hB.lt).trans hB
  go_wp2_with fail
  go_loopw [6, 7, 13] (fun _ _ i wr => ∃ k : Nat, k ≤ l.length ∧ i = .int .i64 k ∧ UBlk wr g (D.runF D.fd b0 (l.take k) ++ List.replicate (l.length - k) 0) ∧ Boxed wr B 34 (.int .u64 (D.endF D.fd b0 (l.take k))) ∧ Below base w wr) (fun _ _ i _ => l.length - (intOf i).toNat)
  case atStart => exact ⟨0, by omega, rfl, by simpa [D.runF] using hblk, hB0, hb0w.mono hbs⟩
  case round =>
    obtain ⟨k, hk, rfl, hub, hBx, hbw⟩ := hrel
    by_cases hlt : k < l.length
    · obtain ⟨b, off, rfl, hb, hcc⟩ := HU.out (fun e => by rw [e] at hlt; simp at hlt)
      have ck := (hbw.cell (p := ⟨b, off + k, none⟩) hb).trans (hcc k hlt)
      have hxk := HX.out _ (getD_mem l k hlt)
      have HS := Lib.hid (HST.out k hlt)
      have hln := HLN.out k hk
      have hel := HEL.out k
      have HTE := Lib.hid ((HTK.out k hlt).2)
      have hcall := dclos_any B (D.endF D.fd b0 (l.take k)) (l.getD k 0) wr hBx hel hxk
      generalize l.getD k 0 = x at *
      generalize D.runF D.fd b0 (l.take k) ++ List.replicate (l.length - k) 0 = acc at *
      generalize D.endF D.fd b0 (l.take k) = st at *
      have HC := Lib.hid hcall
      clear hcc hcall
      go_wp2_with fail
      refine (HC.out).mono ?_
      rintro e w1 ⟨rfl, rfl⟩
      have hneg : g ≠ B := by omega
      generalize (D.fd st x).2 = y at *
      obtain ⟨st2, hst2⟩ : ∃ st2, st2 = (D.fd st x).1 := ⟨_, rfl⟩
      rw [← hst2] at HTE ⊢
      have hB1 := hBx.set (.int .u64 st2)
      have hgs := grownBy_setCell' wr B (.int .u64 (st2 : Int))
      have hub1 : UBlk (wr.setCell ⟨B, 0, none⟩ (.int .u64 (st2 : Int))) g acc := (hgs.block g hub.lt (fun e => hneg (by injection e))).trans hub
      have hbw1 : Below base w (wr.setCell ⟨B, 0, none⟩ (.int .u64 (st2 : Int))) := hbw.setCell (p := ⟨B, 0, none⟩) hbB _
      have u1 := hub1.cell k (by omega)
      have u2 := hub1.free k
      have hub2 := hub1.put k y
      generalize acc.getD k 0 = oz at *
      obtain ⟨W1, hW1⟩ : ∃ W1, W1 = wr.setCell ⟨B, 0, none⟩ (.int .u64 (st2 : Int)) := ⟨_, rfl⟩
      rw [← hW1] at hub2 hB1 hbw1 u1 u2 ⊢
      have hgs2 := grown_set W1 g k (.int .u64 (y : Int))
      have hB2 : Boxed (W1.setCell ⟨g, k, none⟩ (.int .u64 (y : Int))) B 34 (.int .u64 st2) := (hgs2.block B hB1.lt (fun e => hneg (by injection e with e; exact e.symm))).trans hB1
      clear hW1 hst2 hgs hgs2 hub1 hub hneg
      have hkI : (k : Int) < (l.length : Int) := by omega
      go_wp2_with fail
      exact ⟨⟨k + 1, by omega, by go_num, by rw [← HS.out]; exact hub2, by rw [HTE.out]; exact hB2, hbw1.setCell (p := ⟨g, k, none⟩) (show base ≤ g by omega) _⟩, by simp [intOf]; omega⟩
    · obtain rfl : k = l.length := by omega
      have hn := hub.nums
      rw [Nat.sub_self, List.replicate_zero, List.append_nil, List.take_length] at hn
      have HN := Lib.hid hn
      clear hn hub
      go_wp2_with fail
      go_ret
      exact ⟨some ⟨g, 0, none⟩, l.length, by rw [HRL.out]; rfl, HN.out, by rw [HRL.out]; exact Nat.le_refl _, by unfold maxLen; omega, hbw⟩
set_option maxHeartbeats 2000000 in
set_option maxRecDepth 100000 in
theorem along_s (w : World) (base B b0 : Nat) (hbB : base ≤ B) (hB : Boxed w B 34 (.int .u64 b0)) (hb0 : b0 < 18446744073709551616) (a : Option Addr) (c : Nat) (l : List Nat) (hl : l.length ≤ 64) (hx : ∀ x ∈ l, x < 18446744073709551616) (hu : Nums w base a l) :
    Calls Tryz.prog 163 #[.slice a l.length c, .func (.func 195) #[] #[.pointer (some ⟨B, 0, none⟩)]] w (NumsC (D.runF D.fs b0 l) base w) := by
  obtain ⟨i0, hi, hz0, hz1, hz2⟩ := info_parts info_u64
  have HU := Lib.hid hu
  have HX := Lib.hid hx
  have HST := Lib.hid (fun k hk => ublk_step D.fs b0 l k hk)
  have HLN := Lib.hid (fun k hk => ublk_len D.fs b0 l k hk)
  have HTK := Lib.hid (fun k hk => D.runF_take D.fs b0 l k hk)
  have HRL := Lib.hid (D.runF_length D.fs b0 l)
  have HEL := Lib.hid (fun k => D.endF_lt D.fs (fun b x hb hx => (D.fs_lt b x hb hx).1) b0 hb0 (l.take k) (fun x h => hx x (List.mem_of_mem_take h)))
  have hBlt := hB.lt
  have hbs : base ≤ w.heap.size := by omega
  clear hu hx
  go_enter Tryz.func163, Tryz.ntmps163
  go_wp2_with (at_make; refine wpList_make_full _ rfl _ _ 44 rfl w.heap.size 34 i0 (.int .u64 0) 1 Tryz.underlying44 hi hz0 hz1 .i64 .i64 _ _ l.length rfl rfl rfl rfl (by rw [hz2]; omega) (by unfold maxLen; omega) (Nat.le_refl _) ?_; intro w0 hown0 hgrow0)
  have hb0w : Below w.heap.size w w0 := (Below.refl _ _).grown hgrow0 (Nat.le_refl _) (fun k hk => by cases hk)
  have hblk := made_ublk hown0
  obtain ⟨g, hg⟩ : ∃ g, g = w.heap.size := ⟨_, rfl⟩
  rw [← hg] at hblk ⊢
  have hgl : w.heap.size ≤ g := by omega
  clear hg hown0 hgrow0
  have hB0 : Boxed w0 B 34 (.int .u64 b0) := (hb0w.block B hB.lt).trans hB
  go_wp2_with fail
  go_loopw [6, 7, 13] (fun _ _ i wr => ∃ k : Nat, k ≤ l.length ∧ i = .int .i64 k ∧ UBlk wr g (D.runF D.fs b0 (l.take k) ++ List.replicate (l.length - k) 0) ∧ Boxed wr B 34 (.int .u64 (D.endF D.fs b0 (l.take k))) ∧ Below base w wr) (fun _ _ i _ => l.length - (intOf i).toNat)
  case atStart => exact ⟨0, by omega, rfl, by simpa [D.runF] using hblk, hB0, hb0w.mono hbs⟩
  case round =>
    obtain ⟨k, hk, rfl, hub, hBx, hbw⟩ := hrel
    by_cases hlt : k < l.length
    · obtain ⟨b, off, rfl, hb, hcc⟩ := HU.out (fun e => by rw [e] at hlt; simp at hlt)
      have ck := (hbw.cell (p := ⟨b, off + k, none⟩) hb).trans (hcc k hlt)
      have hxk := HX.out _ (getD_mem l k hlt)
      have HS := Lib.hid (HST.out k hlt)
      have hln := HLN.out k hk
      have hel := HEL.out k
      have HTE := Lib.hid ((HTK.out k hlt).2)
      have hcall := sclos_any B (D.endF D.fs b0 (l.take k)) (l.getD k 0) wr hBx hel hxk
      generalize l.getD k 0 = x at *
      generalize D.runF D.fs b0 (l.take k) ++ List.replicate (l.length - k) 0 = acc at *
      generalize D.endF D.fs b0 (l.take k) = st at *
      have HC := Lib.hid hcall
      clear hcc hcall
      go_wp2_with fail
      refine (HC.out).mono ?_
      rintro e w1 ⟨rfl, rfl⟩
      have hneg : g ≠ B := by omega
      generalize (D.fs st x).2 = y at *
      obtain ⟨st2, hst2⟩ : ∃ st2, st2 = (D.fs st x).1 := ⟨_, rfl⟩
      rw [← hst2] at HTE ⊢
      have hB1 := hBx.set (.int .u64 st2)
      have hgs := grownBy_setCell' wr B (.int .u64 (st2 : Int))
      have hub1 : UBlk (wr.setCell ⟨B, 0, none⟩ (.int .u64 (st2 : Int))) g acc := (hgs.block g hub.lt (fun e => hneg (by injection e))).trans hub
      have hbw1 : Below base w (wr.setCell ⟨B, 0, none⟩ (.int .u64 (st2 : Int))) := hbw.setCell (p := ⟨B, 0, none⟩) hbB _
      have u1 := hub1.cell k (by omega)
      have u2 := hub1.free k
      have hub2 := hub1.put k y
      generalize acc.getD k 0 = oz at *
      obtain ⟨W1, hW1⟩ : ∃ W1, W1 = wr.setCell ⟨B, 0, none⟩ (.int .u64 (st2 : Int)) := ⟨_, rfl⟩
      rw [← hW1] at hub2 hB1 hbw1 u1 u2 ⊢
      have hgs2 := grown_set W1 g k (.int .u64 (y : Int))
      have hB2 : Boxed (W1.setCell ⟨g, k, none⟩ (.int .u64 (y : Int))) B 34 (.int .u64 st2) := (hgs2.block B hB1.lt (fun e => hneg (by injection e with e; exact e.symm))).trans hB1
      clear hW1 hst2 hgs hgs2 hub1 hub hneg
      have hkI : (k : Int) < (l.length : Int) := by omega
      go_wp2_with fail
      exact ⟨⟨k + 1, by omega, by go_num, by rw [← HS.out]; exact hub2, by rw [HTE.out]; exact hB2, hbw1.setCell (p := ⟨g, k, none⟩) (show base ≤ g by omega) _⟩, by simp [intOf]; omega⟩
    · obtain rfl : k = l.length := by omega
      have hn := hub.nums
      rw [Nat.sub_self, List.replicate_zero, List.append_nil, List.take_length] at hn
      have HN := Lib.hid hn
      clear hn hub
      go_wp2_with fail
      go_ret
      exact ⟨some ⟨g, 0, none⟩, l.length, by rw [HRL.out]; rfl, HN.out, by rw [HRL.out]; exact Nat.le_refl _, by unfold maxLen; omega, hbw⟩
set_option maxHeartbeats 2000000 in
set_option maxRecDepth 100000 in
theorem along_zig (w : World) (a : Option Addr) (c : Nat) (l : List Nat) (hl : l.length ≤ 64) (hx : ∀ x ∈ l, x < 18446744073709551616) (hu : Nums w w.heap.size a l) :
    Calls Tryz.prog 163 #[.slice a l.length c, .func (.func 164) #[] #[]] w (NumsC (D.runF D.fzig 0 l) w.heap.size w) := by
  obtain ⟨i0, hi, hz0, hz1, hz2⟩ := info_parts info_u64
  have HU := Lib.hid hu
  have HX := Lib.hid hx
  have HST := Lib.hid (fun k hk => ublk_step D.fzig 0 l k hk)
  have HLN := Lib.hid (fun k hk => ublk_len D.fzig 0 l k hk)
  have HTK := Lib.hid (fun k hk => D.runF_take D.fzig 0 l k hk)
  have HRL := Lib.hid (D.runF_length D.fzig 0 l)
  clear hu hx
  go_enter Tryz.func163, Tryz.ntmps163
  go_wp2_with (at_make; refine wpList_make_full _ rfl _ _ 44 rfl w.heap.size 34 i0 (.int .u64 0) 1 Tryz.underlying44 hi hz0 hz1 .i64 .i64 _ _ l.length rfl rfl rfl rfl (by rw [hz2]; omega) (by unfold maxLen; omega) (Nat.le_refl _) ?_; intro w0 hown0 hgrow0)
  have hb0 : Below w.heap.size w w0 := (Below.refl _ _).grown hgrow0 (Nat.le_refl _) (fun k hk => by cases hk)
  have hblk := made_ublk hown0
  obtain ⟨g, hg⟩ : ∃ g, g = w.heap.size := ⟨_, rfl⟩
  rw [← hg] at hblk ⊢
  have hgl : w.heap.size ≤ g := by omega
  clear hg hown0 hgrow0
  go_wp2_with fail
  go_loopw [6, 7, 13] (fun _ _ i wr => ∃ k : Nat, k ≤ l.length ∧ i = .int .i64 k ∧ UBlk wr g (D.runF D.fzig 0 (l.take k) ++ List.replicate (l.length - k) 0) ∧ Below w.heap.size w wr) (fun _ _ i _ => l.length - (intOf i).toNat)
  case atStart => exact ⟨0, by omega, rfl, by simpa [D.runF] using hblk, hb0⟩
  case round =>
    obtain ⟨k, hk, rfl, hub, hbw⟩ := hrel
    by_cases hlt : k < l.length
    · obtain ⟨b, off, rfl, hb, hcc⟩ := HU.out (fun e => by rw [e] at hlt; simp at hlt)
      have ck := (hbw.cell (p := ⟨b, off + k, none⟩) hb).trans (hcc k hlt)
      have hxk := HX.out _ (getD_mem l k hlt)
      have HS := Lib.hid (show (D.runF D.fzig 0 (l.take k) ++ List.replicate (l.length - k) 0).set k (D.zig (l.getD k 0)) = _ from HST.out k hlt)
      have hln := HLN.out k hk
      have hcall := zig_any (l.getD k 0) wr hxk
      generalize l.getD k 0 = x at *
      generalize D.runF D.fzig 0 (l.take k) ++ List.replicate (l.length - k) 0 = acc at *
      generalize D.zig x = y at *
      have HC := Lib.hid hcall
      clear hcc hcall
      go_wp2_with fail
      refine (HC.out).mono ?_
      rintro e w1 ⟨rfl, rfl⟩
      have hub1 := hub
      have u1 := hub1.cell k (by omega)
      have u2 := hub1.free k
      have hub2 := hub1.put k y
      generalize acc.getD k 0 = oz at *
      clear hub1 hub
      have hkI : (k : Int) < (l.length : Int) := by omega
      go_wp2_with fail
      exact ⟨⟨k + 1, by omega, by go_num, by rw [← HS.out]; exact hub2, hbw.setCell (p := ⟨g, k, none⟩) hgl _⟩, by simp [intOf]; omega⟩
    · obtain rfl : k = l.length := by omega
      have hn := hub.nums
      rw [Nat.sub_self, List.replicate_zero, List.append_nil, List.take_length] at hn
      have HN := Lib.hid hn
      clear hn hub
      go_wp2_with fail
      go_ret
      exact ⟨some ⟨g, 0, none⟩, l.length, by rw [HRL.out]; rfl, HN.out, by rw [HRL.out]; exact Nat.le_refl _, by unfold maxLen; omega, hbw⟩
set_option maxHeartbeats 400000 in
theorem diffs_many (a : Option Addr) (c n : Nat) (w : World) (h : 64 < n) :
    Calls Tryz.prog 162 #[.slice a n c] w (AllPostC ([], 2) w) := by
  go_enter Tryz.func162, Tryz.ntmps162
  go_wp2_with fail
  go_ret2
  exact ⟨none, 0, rfl, Nums.nil _ _ _, Nat.le_refl _, by unfold maxLen; omega, Below.refl _ _⟩
set_option maxHeartbeats 1000000 in
theorem diffs_any (a : Option Addr) (c : Nat) (l : List Nat) (w : World) (hx : ∀ x ∈ l, x < 18446744073709551616) (hu : Nums w w.heap.size a l) :
    Calls Tryz.prog 162 #[.slice a l.length c] w (AllPostC (if 64 < l.length then ([], 2) else (D.diffs l, 0)) w) := by
  by_cases h : 64 < l.length
  · rw [if_pos h]; exact diffs_many a c _ w h
  · rw [if_neg h]
    have hmf : ∀ (fn : Fn) (first cap : Array Value) (w : World), (Instr.makeFunc fn first cap).run Tryz.prog w = .ok (.func fn first cap) w := fun _ _ _ _ => rfl
    have hb1 : Below w.heap.size w (w.alloc (.cells #[.int .u64 0] 34)) := (Below.refl _ _).alloc (Nat.le_refl _) _
    have HA := Lib.hid (along_d (w.alloc (.cells #[.int .u64 0] 34)) w.heap.size w.heap.size 0 (Nat.le_refl _) (Boxed.new w 34 (.int .u64 0)) (by decide) a c l (by omega) hx (hu.below hb1))
    have HRL := Lib.hid (show (D.diffs l).length = l.length from D.runF_length _ _ _)
    have hres : D.runF D.fd 0 l = D.diffs l := rfl
    rw [hres] at HA
    generalize D.diffs l = out at *
    go_enter Tryz.func162, Tryz.ntmps162
    go_wp2_with fail
    refine (HA.out).mono ?_
    rintro e w1 ⟨A, c', rfl, hn, hlc, hcm, hb2⟩
    go_wp2_with fail
    go_ret2
    exact ⟨A, c', rfl, hn, hlc, hcm, hb1.trans hb2⟩
set_option maxHeartbeats 400000 in
theorem sums_many (a : Option Addr) (c n : Nat) (w : World) (h : 64 < n) :
    Calls Tryz.prog 176 #[.slice a n c] w (AllPostC ([], 2) w) := by
  go_enter Tryz.func176, Tryz.ntmps176
  go_wp2_with fail
  go_ret2
  exact ⟨none, 0, rfl, Nums.nil _ _ _, Nat.le_refl _, by unfold maxLen; omega, Below.refl _ _⟩
set_option maxHeartbeats 1000000 in
theorem sums_any (a : Option Addr) (c : Nat) (l : List Nat) (w : World) (hx : ∀ x ∈ l, x < 18446744073709551616) (hu : Nums w w.heap.size a l) :
    Calls Tryz.prog 176 #[.slice a l.length c] w (AllPostC (if 64 < l.length then ([], 2) else (D.sums l, 0)) w) := by
  by_cases h : 64 < l.length
  · rw [if_pos h]; exact sums_many a c _ w h
  · rw [if_neg h]
    have hmf : ∀ (fn : Fn) (first cap : Array Value) (w : World), (Instr.makeFunc fn first cap).run Tryz.prog w = .ok (.func fn first cap) w := fun _ _ _ _ => rfl
    have hb1 : Below w.heap.size w (w.alloc (.cells #[.int .u64 0] 34)) := (Below.refl _ _).alloc (Nat.le_refl _) _
    have HA := Lib.hid (along_s (w.alloc (.cells #[.int .u64 0] 34)) w.heap.size w.heap.size 0 (Nat.le_refl _) (Boxed.new w 34 (.int .u64 0)) (by decide) a c l (by omega) hx (hu.below hb1))
    have HRL := Lib.hid (show (D.sums l).length = l.length from D.runF_length _ _ _)
    have hres : D.runF D.fs 0 l = D.sums l := rfl
    rw [hres] at HA
    generalize D.sums l = out at *
    go_enter Tryz.func176, Tryz.ntmps176
    go_wp2_with fail
    refine (HA.out).mono ?_
    rintro e w1 ⟨A, c', rfl, hn, hlc, hcm, hb2⟩
    go_wp2_with fail
    go_ret2
    exact ⟨A, c', rfl, hn, hlc, hcm, hb1.trans hb2⟩
end Go.Proofs.YtcachhnhncodoaaGreat
namespace Go.Proofs.YtcachhnhncodoaaGreat
open Go.RowKit
set_option linter.unusedVariables false
attribute [local go_sem ↓] Go.wp_at_zero Go.wp_at_succ
theorem one_nums {W : World} {g n : Nat} (hc : W.cell? ⟨g, 0, none⟩ = some (.int .u64 (n : Int))) : Nums W W.heap.size (some ⟨g, 0, none⟩) [n] := by
  intro _
  refine ⟨g, 0, rfl, World.block_lt_of_cell? W _ hc, fun i hi => ?_⟩
  have : i = 0 := by simpa using hi
  subst this
  simpa using hc
abbrev KB (bx : Nat) (a b : Value) (w W : World) : Prop := W.cell? ⟨bx, 0, none⟩ = some a ∧ W.cell? ⟨bx, 1, none⟩ = some b ∧ Below bx w W
theorem kb_drew {W w : World} {bx : Nat} {a b : Value} (h : KB bx a b w W) : KB bx a b w W.drew := ⟨h.1, h.2.1, h.2.2.drew⟩
theorem kb_below {W w W' : World} {bx : Nat} {a b : Value} (hk : Below W.heap.size W W') (h : KB bx a b w W) : KB bx a b w W' :=
  have hl := World.block_lt_of_cell? W _ h.1
  ⟨(hk.cell (p := ⟨bx, 0, none⟩) hl).trans h.1, (hk.cell (p := ⟨bx, 1, none⟩) hl).trans h.2.1, h.2.2.trans (hk.mono (Nat.le_of_lt hl))⟩
theorem kb_alloc {W w : World} {bx : Nat} {a b : Value} (o : Obj) (h : KB bx a b w W) : KB bx a b w (W.alloc o) := kb_below ((Below.refl _ _).alloc (Nat.le_refl _) o) h
set_option maxHeartbeats 1000000 in
set_option maxRecDepth 100000 in
theorem rbytes_any (n m wide : Nat) (w : World) (hn : n < 2 ^ wide) (hm : m ≤ 64) (hw : wide ≤ 64) :
    Calls Tryz.prog 242 #[.agg #[.int .u64 n, .int .i64 m], .int .i64 wide] w (TextPost (H.Part.bytes wide (.run n m)) w) := by
  have hmw : IntKind.u64.wrap (m : Int) = (m : Int) := by rw [IntKind.wrap_u64]; omega
  have hmul : IntKind.u64.wrap (2 * (m : Int)) = ((2 * m : Nat) : Int) := by rw [IntKind.wrap_u64]; omega
  obtain ⟨t1, ht1⟩ : ∃ t1, t1 = str (V.enc (2 * m)) := ⟨_, rfl⟩
  obtain ⟨t2, ht2⟩ : ∃ t2, t2 = str (H.pkd wide [n]) := ⟨_, rfl⟩
  have HWR := Lib.hid (fun W => show Calls Tryz.prog 50 #[.int .u64 ((2 * m : Nat) : Int)] W (fun e w' => e = .returned (.string t1) ∧ Below W.heap.size W w') by rw [ht1]; exact write_any (2 * m) W (by omega))
  have HPK := Lib.hid (fun (W : World) g c (hc : W.cell? ⟨g, 0, none⟩ = some (.int .u64 (n : Int))) => show Calls Tryz.prog 244 #[.slice (some ⟨g, 0, none⟩) 1 c, .int .i64 wide] W (fun e w' => e = .returned (.string t2) ∧ Below W.heap.size W w') by
    rw [ht2]; exact packed'_any (some ⟨g, 0, none⟩) c [n] wide W (by simpa using hn) hw (by simp) (one_nums hc))
  have h1 : t1.size ≤ 9 := by rw [ht1, str_size, V.enc_length]; exact V.sz_le _
  have h2 : t2.size ≤ 64 := by rw [ht2, str_size, H.pkd_length]; unfold B.sz; simp; omega
  have hcat : ¬ 9223372036854775807 < t1.size + t2.size := by omega
  have HSUM := Lib.hid (show t1 ++ t2 = str (H.Part.bytes wide (.run n m)) by rw [ht1, ht2, str_append]; rfl)
  clear ht1 ht2
  go_enter Tryz.func242, Tryz.ntmps242
  go_wp2_with fail
  have c0 : (w.alloc (.cells #[.int .u64 (n : Int), .int .i64 (m : Int)] 183)).cell? ⟨w.heap.size, 0, none⟩ = some (.int .u64 (n : Int)) := by rw [World.cell?_alloc_new]; rfl
  have c1 : (w.alloc (.cells #[.int .u64 (n : Int), .int .i64 (m : Int)] 183)).cell? ⟨w.heap.size, 1, none⟩ = some (.int .i64 (m : Int)) := by rw [World.cell?_alloc_new]; rfl
  have hb0 : Below w.heap.size w (w.alloc (.cells #[.int .u64 (n : Int), .int .i64 (m : Int)] 183)) := (Below.refl _ _).alloc (Nat.le_refl _) _
  have hlt : w.heap.size < (w.alloc (.cells #[.int .u64 (n : Int), .int .i64 (m : Int)] 183)).heap.size := by simp
  obtain ⟨bx, hbx⟩ : ∃ bx, bx = w.heap.size := ⟨_, rfl⟩
  obtain ⟨W1, hW1⟩ : ∃ W1, W1 = w.alloc (.cells #[.int .u64 (n : Int), .int .i64 (m : Int)] 183) := ⟨_, rfl⟩
  rw [← hW1, ← hbx] at c0 c1 hlt hb0 ⊢
  have HBX := Lib.hid hbx
  clear hW1 hbx
  go_region_held3 (fun W => W.cell? ⟨bx, 0, none⟩ = some (.int .u64 (n : Int)) ∧ W.cell? ⟨bx, 1, none⟩ = some (.int .i64 (m : Int)) ∧ Below bx w W)
    (first
      | (refine kb_drew ?_; first | assumption | (refine ⟨?_, ?_, ?_⟩ <;> assumption))
      | (refine kb_drew (kb_alloc _ ?_); first | assumption | (refine ⟨?_, ?_, ?_⟩ <;> assumption))
      | (refine kb_alloc _ ?_; first | assumption | (refine ⟨?_, ?_, ?_⟩ <;> assumption))
      | (refine kb_below hb3 ?_; first | assumption | (refine ⟨?_, ?_, ?_⟩ <;> assumption))
      | (refine kb_below hb4 ?_; first | assumption | (refine ⟨?_, ?_, ?_⟩ <;> assumption)))
    (first
      | (go_at_call 50; refine (HWR.out _).mono ?_; rintro e w3 ⟨rfl, hb3⟩)
      | (go_at_call 244; refine (HPK.out _ _ _ (by rw [World.cell?_alloc_new]; rfl)).mono ?_; rintro e w4 ⟨rfl, hb4⟩)
      | (go_at_call 244; refine (HPK.out _ _ _ ((hb3.cell (p := ⟨W1.heap.size, 0, none⟩) (by simp)).trans (World.cell?_alloc_new W1 _ _ 0))).mono ?_; rintro e w4 ⟨rfl, hb4⟩))
  all_goals
    go_wp2_with fail
    go_ret
    exact ⟨by rw [← HSUM.out]; rfl, HBX.out ▸ (show KB bx (.int .u64 (n : Int)) (.int .i64 (m : Int)) w w4 by assumption).2.2⟩
end Go.Proofs.YtcachhnhncodoaaGreat
