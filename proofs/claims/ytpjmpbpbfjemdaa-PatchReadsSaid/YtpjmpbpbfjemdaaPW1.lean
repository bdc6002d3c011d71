/- The walks of patch.fits, the closures, places with each of them, outside. -/
import Derived.Test.YtpjmpbpbfjemdaaPPlain
import Derived.Test.YtpjmpbpbfjemdaaPW0
import Derived.RangeFuncBox
namespace Go.Proofs.Ytpjmpbpbfjemdaa
open Go.RowKit
set_option linter.unusedVariables false

set_option maxHeartbeats 400000 in
theorem pfits_any (n k : Nat) (w : World) (hk : k ≤ 64) :
    Calls Try.prog 75 #[.int .u64 n, .int .i64 k] w fun e w' => e = .returned (.bool (!P.out k n)) ∧ w = w' := by
  have hq : ((n : Int) / 2 ^ k == 0) = !P.out k n := by
    have e : ((n : Int) / 2 ^ k) = ((n / 2 ^ k : Nat) : Int) := by simp
    rw [e]
    unfold P.out
    rw [Bool.not_not]
    by_cases h : B.bl n ≤ k
    · rw [decide_eq_true h, beq_iff_eq, Nat.div_eq_of_lt ((B.bl_le n k).1 h)]; rfl
    · rw [decide_eq_false h, beq_eq_false_iff_ne]
      intro h0
      have h1 : n / 2 ^ k = 0 := by exact_mod_cast h0
      rcases Nat.div_eq_zero_iff.1 h1 with h2 | h2
      · have := B.pos2 k; omega
      · exact h ((B.bl_le n k).2 h2)
  generalize (!P.out k n) = b at *
  go_enter Try.func75, Try.ntmps75
  go_wp2_with fail
  go_ret
  exact ⟨rfl, rfl⟩

set_option maxHeartbeats 400000 in
theorem oclos_any (C k n : Nat) (w : World) (hB : Boxed w C 3 (.int .i64 k)) (hk : k ≤ 64) :
    Calls Try.prog 74 #[.int .u64 n, .pointer (some ⟨C, 0, none⟩)] w fun e w' => e = .returned (.bool (P.out k n)) ∧ w = w' := by
  have c0 := hB.cell
  have hf := fun W => pfits_any n k W hk
  have hn : (!!P.out k n) = P.out k n := Bool.not_not _
  generalize P.out k n = b at *
  have HF := Lib.hid hf
  clear hf
  cases b
  all_goals
    go_enter Try.func74, Try.ntmps74
    go_wp2_with fail
    refine (HF.out _).mono ?_
    rintro e w1 ⟨rfl, rfl⟩
    go_wp2_with fail
    go_ret
    exact ⟨rfl, rfl⟩

theorem xor_max64 (b : Nat) (hb : b < 18446744073709551616) : bits .xor .u64 IntKind.u64.max (b : Int) = ((18446744073709551615 - b : Nat) : Int) := by
  have e : (IntKind.u64.max : Int) = ((18446744073709551615 : Nat) : Int) := rfl
  rw [e, bits_xor_u64_nat 18446744073709551615 b (by omega) hb]
  have h := congrArg BitVec.toNat (BitVec.allOnes_xor (x := BitVec.ofNat 64 b))
  rw [BitVec.toNat_xor, BitVec.toNat_allOnes, BitVec.toNat_not, BitVec.toNat_ofNat, Nat.mod_eq_of_lt (show b < 2 ^ 64 by omega)] at h
  have h2 : 18446744073709551615 ^^^ b = 18446744073709551615 - b := h
  rw [h2]

set_option maxHeartbeats 400000 in
theorem rclos_any (C b n : Nat) (w : World) (hB : Boxed w C 23 (.int .u64 b)) (hb : b < 18446744073709551616) :
    Calls Try.prog 59 #[.int .u64 n, .pointer (some ⟨C, 0, none⟩)] w fun e w' => e = .returned (.bool (decide (18446744073709551615 - b < n))) ∧ w = w' := by
  have c0 := hB.cell
  have hx := xor_max64 b hb
  have hd : decide (((18446744073709551615 - b : Nat) : Int) < (n : Int)) = decide (18446744073709551615 - b < n) := decide_eq_decide.2 (by omega)
  generalize 18446744073709551615 - b = q at *
  go_enter Try.func59, Try.ntmps59
  go_wp2_with fail
  go_ret
  exact ⟨rfl, rfl⟩

def IPost (l : List Nat) (w : World) (e : Ending) (w' : World) : Prop :=
  ∃ a c, e = .returned (.slice a l.length c) ∧ IRow w.heap.size l (.slice a l.length c) w' ∧ Below w.heap.size w w'

set_option maxHeartbeats 1000000 in
set_option maxRecDepth 100000 in
theorem places_o (C k : Nat) (w : World) (hB : Boxed w C 3 (.int .i64 k)) (hk : k ≤ 64) (a : Option Addr) (c : Nat) (l : List Nat) (hl : l.length ≤ 64) (hu : Nums w w.heap.size a l) :
    Calls Try.prog 58 #[.slice a l.length c, .func (.func 74) #[] #[.pointer (some ⟨C, 0, none⟩)]] w (IPost (P.plc (P.out k) 0 l) w) := by
  have HU := Lib.hid hu
  have HTK := Lib.hid (fun j h => P.plc_take (P.out k) l j h)
  have HLN := Lib.hid (fun j => P.plc_len (P.out k) 0 (l.take j))
  clear hu
  go_enter Try.func58, Try.ntmps58
  go_wp2_with fail
  go_loopw [5, 6, 7, 10] (fun v _ _ i wr => ∃ j : Nat, j ≤ l.length ∧ i = .int .i64 j ∧ IRow w.heap.size (P.plc (P.out k) 0 (l.take j)) v wr ∧ Below w.heap.size w wr) (fun _ _ _ i _ => l.length - (intOf i).toNat)
  case atStart => exact ⟨0, by omega, rfl, ⟨rfl, Or.inl ⟨rfl, rfl⟩⟩, Below.refl _ _⟩
  case round =>
    obtain ⟨j, hj, rfl, hrow, hbw⟩ := hrel
    by_cases hlt : j < l.length
    · obtain ⟨b, off, rfl, hb, hcc⟩ := HU.out (fun e => by rw [e] at hlt; simp at hlt)
      have cj := (hbw.cell (p := ⟨b, off + j, none⟩) hb).trans (hcc j hlt)
      have HT := Lib.hid (HTK.out j hlt)
      have hln := HLN.out j
      rw [List.length_take] at hln
      have HC := Lib.hid (oclos_any C k (l.getD j 0) wr ((hbw.block C hB.lt).trans hB) hk)
      generalize l.getD j 0 = x at *
      generalize P.plc (P.out k) 0 (l.take j) = acc at *
      have hjI : (j : Int) < (l.length : Int) := by omega
      by_cases ho : P.out k x = true
      · rw [ho] at HC HT
        have HROW := Lib.hid (IRow.alloc_ hrow)
        have hlb : (acc.length + 1) * 8 ≤ 140737488355328 := by omega
        have hb5 : w.heap.size ≤ (wr.alloc (.cells #[.int .i64 (j : Int)] 3)).heap.size := by have := hbw.size; simp; omega
        clear hrow hln hcc ho
        go_wp2_with fail
        refine (HC.out).mono ?_
        rintro e w1 ⟨rfl, rfl⟩
        go_wp2_with (at_builtin; refine wpList_append_onei rfl (.tmp 18) (.tmp 20) rfl w.heap.size _ acc rfl (HROW.out _) wr.heap.size j rfl (World.cell?_alloc_new _ _ _ _) hlb hb5 ?_)
        intro v' w5 hown5 hb6
        go_wp2_with fail
        refine ⟨⟨j + 1, by omega, by go_num, ?_, (hbw.alloc hbw.size _).trans hb6⟩, by simp [intOf]; omega⟩
        rw [HT.out, if_pos trivial]; exact hown5
      · have ho' : P.out k x = false := by simpa using ho
        rw [ho'] at HC HT
        have HROW := Lib.hid hrow
        clear hrow hln hcc ho ho'
        go_wp2_with fail
        refine (HC.out).mono ?_
        rintro e w1 ⟨rfl, rfl⟩
        go_wp2_with fail
        refine ⟨⟨j + 1, by omega, by go_num, ?_, hbw⟩, by simp [intOf]; omega⟩
        rw [HT.out, if_neg (by simp), List.append_nil]; exact HROW.out
    · obtain rfl : j = l.length := by omega
      rw [List.take_length] at hrow
      obtain ⟨a', c', rfl, _⟩ := iRow_nums hrow
      have HN := Lib.hid hrow
      clear hrow
      generalize P.plc (P.out k) 0 l = ps at *
      go_wp2_with fail
      go_ret
      exact ⟨a', c', rfl, HN.out, hbw⟩

/-- is it too much beside the base? -/
def over (b n : Nat) : Bool := decide (18446744073709551615 - b < n)
set_option maxHeartbeats 1000000 in
set_option maxRecDepth 100000 in
theorem places_r (C k : Nat) (w : World) (hB : Boxed w C 23 (.int .u64 k)) (hk : k < 18446744073709551616) (a : Option Addr) (c : Nat) (l : List Nat) (hl : l.length ≤ 64) (hu : Nums w w.heap.size a l) :
    Calls Try.prog 58 #[.slice a l.length c, .func (.func 59) #[] #[.pointer (some ⟨C, 0, none⟩)]] w (IPost (P.plc (over k) 0 l) w) := by
  have HU := Lib.hid hu
  have HTK := Lib.hid (fun j h => P.plc_take (over k) l j h)
  have HLN := Lib.hid (fun j => P.plc_len (over k) 0 (l.take j))
  clear hu
  go_enter Try.func58, Try.ntmps58
  go_wp2_with fail
  go_loopw [5, 6, 7, 10] (fun v _ _ i wr => ∃ j : Nat, j ≤ l.length ∧ i = .int .i64 j ∧ IRow w.heap.size (P.plc (over k) 0 (l.take j)) v wr ∧ Below w.heap.size w wr) (fun _ _ _ i _ => l.length - (intOf i).toNat)
  case atStart => exact ⟨0, by omega, rfl, ⟨rfl, Or.inl ⟨rfl, rfl⟩⟩, Below.refl _ _⟩
  case round =>
    obtain ⟨j, hj, rfl, hrow, hbw⟩ := hrel
    by_cases hlt : j < l.length
    · obtain ⟨b, off, rfl, hb, hcc⟩ := HU.out (fun e => by rw [e] at hlt; simp at hlt)
      have cj := (hbw.cell (p := ⟨b, off + j, none⟩) hb).trans (hcc j hlt)
      have HT := Lib.hid (HTK.out j hlt)
      have hln := HLN.out j
      rw [List.length_take] at hln
      have HC := Lib.hid (show Calls Try.prog 59 #[.int .u64 (l.getD j 0 : Nat), .pointer (some ⟨C, 0, none⟩)] wr (fun e w' => e = .returned (.bool (over k (l.getD j 0))) ∧ wr = w') from rclos_any C k (l.getD j 0) wr ((hbw.block C hB.lt).trans hB) hk)
      generalize l.getD j 0 = x at *
      generalize P.plc (over k) 0 (l.take j) = acc at *
      have hjI : (j : Int) < (l.length : Int) := by omega
      by_cases ho : over k x = true
      · rw [ho] at HC HT
        have HROW := Lib.hid (IRow.alloc_ hrow)
        have hlb : (acc.length + 1) * 8 ≤ 140737488355328 := by omega
        have hb5 : w.heap.size ≤ (wr.alloc (.cells #[.int .i64 (j : Int)] 3)).heap.size := by have := hbw.size; simp; omega
        clear hrow hln hcc ho
        go_wp2_with fail
        refine (HC.out).mono ?_
        rintro e w1 ⟨rfl, rfl⟩
        go_wp2_with (at_builtin; refine wpList_append_onei rfl (.tmp 18) (.tmp 20) rfl w.heap.size _ acc rfl (HROW.out _) wr.heap.size j rfl (World.cell?_alloc_new _ _ _ _) hlb hb5 ?_)
        intro v' w5 hown5 hb6
        go_wp2_with fail
        refine ⟨⟨j + 1, by omega, by go_num, ?_, (hbw.alloc hbw.size _).trans hb6⟩, by simp [intOf]; omega⟩
        rw [HT.out, if_pos trivial]; exact hown5
      · have ho' : over k x = false := by simpa using ho
        rw [ho'] at HC HT
        have HROW := Lib.hid hrow
        clear hrow hln hcc ho ho'
        go_wp2_with fail
        refine (HC.out).mono ?_
        rintro e w1 ⟨rfl, rfl⟩
        go_wp2_with fail
        refine ⟨⟨j + 1, by omega, by go_num, ?_, hbw⟩, by simp [intOf]; omega⟩
        rw [HT.out, if_neg (by simp), List.append_nil]; exact HROW.out
    · obtain rfl : j = l.length := by omega
      rw [List.take_length] at hrow
      obtain ⟨a', c', rfl, _⟩ := iRow_nums hrow
      have HN := Lib.hid hrow
      clear hrow
      generalize P.plc (over k) 0 l = ps at *
      go_wp2_with fail
      go_ret
      exact ⟨a', c', rfl, HN.out, hbw⟩

set_option maxHeartbeats 400000 in
theorem outside_any (a : Option Addr) (c : Nat) (l : List Nat) (k : Nat) (w : World) (hk : k ≤ 64) (hl : l.length ≤ 64) (hu : Nums w w.heap.size a l) :
    Calls Try.prog 53 #[.slice a l.length c, .int .i64 k] w (IPost (P.plc (P.out k) 0 l) w) := by
  have hmf : ∀ (fn : Fn) (first cap : Array Value) (w : World), (Instr.makeFunc fn first cap).run Try.prog w = .ok (.func fn first cap) w := fun _ _ _ _ => rfl
  have hb : Below w.heap.size w (w.alloc (.cells #[.int .i64 (k : Int)] 3)) := (Below.refl _ _).alloc (Nat.le_refl _) _
  have HP := Lib.hid (places_o w.heap.size k (w.alloc (.cells #[.int .i64 (k : Int)] 3)) (heap_alloc_new w _) hk a c l hl (hu.next hb))
  have HB := Lib.hid hb
  clear hb
  generalize P.plc (P.out k) 0 l = ps at *
  go_enter Try.func53, Try.ntmps53
  go_wp2_with fail
  refine (HP.out).mono ?_
  rintro e w1 ⟨a1, c1, rfl, hn, hb1⟩
  go_wp2_with fail
  go_ret
  exact ⟨a1, c1, rfl, hn.mono (by simp), below_then HB.out hb1⟩
end Go.Proofs.Ytpjmpbpbfjemdaa
