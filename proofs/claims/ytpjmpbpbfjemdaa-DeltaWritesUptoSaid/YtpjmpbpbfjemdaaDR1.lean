/- The walks of hypostyleref.ZigOf, ZagOf, DiffsOf, SumsOf. -/
import Derived.Test.YtpjmpbpbfjemdaaDW5
import Derived.Test.YtpjmpbpbfjemdaaStep
namespace Go.Proofs.Ytpjmpbpbfjemdaa
open Go.RowKit
set_option linter.unusedVariables false

set_option maxHeartbeats 400000 in
theorem rzig_any (n : Nat) (w : World) (hn : n < 18446744073709551616) :
    Calls Try.prog 21 #[.int .u64 n] w fun e w' => e = .returned (.int .u64 (D.zig n)) ∧ w = w' := by
  by_cases h : n < 9223372036854775808
  · have HZ := Lib.hid (show D.zig n = 2 * n by unfold D.zig; rw [if_pos h])
    have hw : IntKind.u64.wrap (2 * (n : Int)) = 2 * (n : Int) := by rw [IntKind.wrap_u64]; omega
    have g1 : decide ((n : Int) < 9223372036854775808) = true := by simp; omega
    go_enter Try.func21, Try.ntmps21
    go_wp2_with fail
    go_ret
    exact ⟨by rw [HZ.out]; simp, rfl⟩
  · have HZ := Lib.hid (show D.zig n = 2 * (18446744073709551616 - n) - 1 by unfold D.zig; rw [if_neg h])
    have g1 : decide ((n : Int) < 9223372036854775808) = false := by simp; omega
    obtain ⟨m, hm⟩ : ∃ m, m = 18446744073709551616 - n := ⟨_, rfl⟩
    have hw : IntKind.u64.wrap (-(n : Int)) = (m : Int) := by rw [IntKind.wrap_u64]; omega
    have hw0 : IntKind.u64.wrap (0 - (n : Int)) = (m : Int) := by rw [IntKind.wrap_u64]; omega
    obtain ⟨z, hz⟩ : ∃ z, z = 2 * (18446744073709551616 - n) - 1 := ⟨_, rfl⟩
    have hw2 : IntKind.u64.wrap (IntKind.u64.wrap (2 * (m : Int)) - 1) = (z : Int) := by rw [IntKind.wrap_u64, IntKind.wrap_u64]; omega
    rw [← hz] at HZ
    clear hm hz
    go_enter Try.func21, Try.ntmps21
    go_wp2_with fail
    go_ret
    exact ⟨by rw [HZ.out]; rfl, rfl⟩

set_option maxHeartbeats 400000 in
theorem rzag_any (n : Nat) (w : World) (hn : n < 18446744073709551616) :
    Calls Try.prog 23 #[.int .u64 n] w fun e w' => e = .returned (.int .u64 (D.zag n)) ∧ w = w' := by
  obtain ⟨q, hq⟩ : ∃ q, q = n / 2 := ⟨_, rfl⟩
  have hqI : ((n : Int) / 2) = (q : Int) := by omega
  have hqb : q < 9223372036854775808 := by omega
  by_cases h : n % 2 = 0
  · have HZ := Lib.hid (show D.zag n = q by unfold D.zag; rw [if_pos h, hq])
    have g1 : ((n : Int) % 2 == 0) = true := by rw [beq_iff_eq]; omega
    clear hq
    go_enter Try.func23, Try.ntmps23
    go_wp2_with fail
    go_ret
    exact ⟨by rw [HZ.out]; rfl, rfl⟩
  · obtain ⟨z, hz⟩ : ∃ z, z = 18446744073709551616 - 1 - q := ⟨_, rfl⟩
    have HZ := Lib.hid (show D.zag n = z by unfold D.zag; rw [if_neg h, hz, hq])
    have g1 : ((n : Int) % 2 == 0) = false := by rw [beq_eq_false_iff_ne]; omega
    have hw2 : IntKind.u64.wrap (-((q : Int) + 1)) = (z : Int) := by rw [IntKind.wrap_u64]; omega
    have hw3 : IntKind.u64.wrap (0 - ((q : Int) + 1)) = (z : Int) := by rw [IntKind.wrap_u64]; omega
    clear hq hz
    go_enter Try.func23, Try.ntmps23
    go_wp2_with fail
    go_ret
    exact ⟨by rw [HZ.out]; rfl, rfl⟩

theorem diffs_take0 (l : List Nat) (h : 0 < l.length) (hx : ∀ x ∈ l, x < 18446744073709551616) : D.diffs (l.take 1) = [l.getD 0 0] := by
  cases l with
  | nil => simp at h
  | cons x t =>
    have hx0 := hx x (by simp)
    have e : (D.fd 0 x).2 = x := by unfold D.fd; simp only; omega
    show [(D.fd 0 x).2] = [x]
    rw [e]
theorem diffs_take (l : List Nat) (k : Nat) (h1 : 1 ≤ k) (h : k < l.length) : D.diffs (l.take (k + 1)) = D.diffs (l.take k) ++ [(l.getD k 0 + (18446744073709551616 - l.getD (k - 1) 0)) % 18446744073709551616] := by
  unfold D.diffs
  rw [(D.runF_take D.fd 0 l k h).1]
  obtain ⟨j, rfl⟩ : ∃ j, k = j + 1 := ⟨k - 1, by omega⟩
  rw [(D.runF_take D.fd 0 l j (by omega)).2]
  rfl

set_option maxHeartbeats 1000000 in
set_option maxRecDepth 100000 in
theorem rdiffs_some (b off c : Nat) (l : List Nat) (w : World) (hl : l.length * 8 ≤ 140737488351232) (hx : ∀ x ∈ l, x < 18446744073709551616) (hb : b < w.heap.size)
    (hc : ∀ i, i < l.length → w.cell? ⟨b, off + i, none⟩ = some (.int .u64 ((l.getD i 0 : Nat) : Int))) :
    Calls Try.prog 16 #[.slice (some ⟨b, off, none⟩) l.length c] w (NumsC (D.diffs l) w.heap.size w) := by
  have HC := Lib.hid hc
  have HX := Lib.hid hx
  have HT0 := Lib.hid (fun h => diffs_take0 l h hx)
  have HTK := Lib.hid (fun k h1 h => diffs_take l k h1 h)
  have HLN := Lib.hid (fun k (h : k ≤ l.length) => show (D.diffs (l.take k)).length = k by rw [D.diffs_length, List.length_take]; omega)
  clear hc hx
  go_enter Try.func16, Try.ntmps16
  go_wp2_with fail
  go_loopw [3, 4] (fun v i wr => ∃ k : Nat, k ≤ l.length ∧ i = .int .i64 k ∧ NumRow w.heap.size (D.diffs (l.take k)) v wr ∧ Below w.heap.size w wr) (fun _ i _ => l.length - (intOf i).toNat)
  case atStart => exact ⟨0, by omega, rfl, ⟨rfl, Or.inl ⟨rfl, rfl⟩⟩, Below.refl _ _⟩
  case round =>
    obtain ⟨k, hk, rfl, hrow, hbw⟩ := hrel
    have hln := HLN.out k hk
    by_cases hlt : k < l.length
    · have ck := (hbw.cell (p := ⟨b, off + k, none⟩) hb).trans (HC.out k hlt)
      by_cases h0 : k = 0
      · subst h0
        have HT := Lib.hid (HT0.out hlt)
        have hnil : D.diffs (l.take 0) = [] := rfl
        rw [hnil] at hrow
        generalize l.getD 0 0 = x at *
        have HROW := Lib.hid (show wr.ownsRow w.heap.size 23 1 u3 0 [] from hrow)
        have hb5 : w.heap.size ≤ (wr.alloc (.cells #[.int .u64 (x : Int)] 23)).heap.size := by have := hbw.size; simp; omega
        rw [Nat.add_zero] at ck
        have ck0 : wr.cell? ⟨b, off + 0, none⟩ = some (.int .u64 (x : Int)) := ck
        clear hrow hln hnil
        go_wp2_with (at_builtin; refine wpList_append_one rfl (.tmp 13) (.tmp 17) rfl w.heap.size _ 0 _ rfl (HROW.out.alloc _) wr.heap.size x rfl (World.cell?_alloc_new _ _ _ _) (by omega) hb5 ?_)
        intro v' w5 hown5 hgrow5
        have hbw5 : Below w.heap.size w w5 := (hbw.alloc hbw.size _).grown hgrow5 (by have := hbw.size; simp; omega) (fun k hk => (HROW.out.lt k hk).1)
        go_wp2_with fail
        refine ⟨⟨1, by omega, by go_num, ?_, hbw5⟩, by simp [intOf]; omega⟩
        rw [HT.out]; exact hown5
      · have ck1 := (hbw.cell (p := ⟨b, off + (k - 1), none⟩) hb).trans (HC.out (k - 1) (by omega))
        have HT := Lib.hid (HTK.out k (by omega) hlt)
        have hxk := HX.out _ (getD_mem l k hlt)
        have hyk := HX.out _ (getD_mem l (k - 1) (by omega))
        have g0 : ((k : Int) == 0) = false := by rw [beq_eq_false_iff_ne]; omega
        generalize l.getD k 0 = x at *
        generalize l.getD (k - 1) 0 = y at *
        generalize D.diffs (l.take k) = acc at *
        have hwrap : IntKind.u64.wrap ((x : Int) - (y : Int)) = (((x + (18446744073709551616 - y)) % 18446744073709551616 : Nat) : Int) := by rw [IntKind.wrap_u64]; omega
        generalize (x + (18446744073709551616 - y)) % 18446744073709551616 = z at *
        have hi1 : IntKind.i64.wrap ((k : Int) - 1) = (k : Int) - 1 := by rw [IntKind.wrap_i64]; omega
        have hi2 : (0 : Int) ≤ (k : Int) - 1 := by omega
        have hi3 : ((k : Int) - 1).toNat = k - 1 := by omega
        have hi4 : (k : Int) - 1 < (l.length : Int) := by omega
        have hi5 : (k : Int) < (l.length : Int) := by omega
        have hi6 : (1 : Int) ≤ (k : Int) := by omega
        have hlb : (acc.length + 1) * 8 ≤ 140737488355328 := by omega
        have hb5 : w.heap.size ≤ (wr.alloc (.cells #[.int .u64 (z : Int)] 23)).heap.size := by have := hbw.size; simp; omega
        have HROW := Lib.hid hrow
        have HLN2 := Lib.hid hln
        clear hrow hln
        go_wp2_with fail
        go_region_held3 (fun W => W.cell? ⟨b, off + k, none⟩ = some (.int .u64 (x : Int)) ∧ W.cell? ⟨b, off + (k - 1), none⟩ = some (.int .u64 (y : Int)))
          (first
            | go_keep
            | (go_split_ands; refine ⟨?_, ?_⟩ <;> (rw [hg5.cell (by assumption)]; assumption)))
          ((refine step_append_one rfl (.tmp 19) (.tmp 30) rfl w.heap.size _ acc rfl ((HROW.out.alloc _).drew) wr.heap.size z rfl (by simp) hlb hb5 ?_; intro v' w5 hown5 hg5))
        go_wp2_with fail
        refine ⟨⟨k + 1, by omega, by go_num, ?_, ((hbw.alloc hbw.size _).drew).trans hg5⟩, by simp [intOf]; omega⟩
        rw [HT.out]; exact hown5
    · obtain rfl : k = l.length := by omega
      rw [List.take_length] at hrow
      obtain ⟨a', c', rfl, hn, h1, h2⟩ := numRow_numsc hrow
      rw [D.diffs_length] at h1 ⊢
      go_wp2_with fail
      go_ret
      exact ⟨a', c', by rw [D.diffs_length]; rfl, hn, by rw [D.diffs_length]; exact h1, h2, hbw⟩

set_option maxHeartbeats 400000 in
theorem rdiffs_nil (a : Option Addr) (c : Nat) (w : World) :
    Calls Try.prog 16 #[.slice a 0 c] w (NumsC [] w.heap.size w) := by
  go_enter Try.func16, Try.ntmps16
  go_wp2_with fail
  refine wp_loop_rounds 1 ?_
  rw [rounds_succ]
  go_wp2_with fail
  go_ret
  exact ⟨none, 0, rfl, Nums.nil _ _ _, Nat.le_refl _, by unfold maxLen; omega, Below.refl _ _⟩

theorem rdiffs_any (a : Option Addr) (c : Nat) (l : List Nat) (w : World) (hl : l.length * 8 ≤ 140737488351232) (hx : ∀ x ∈ l, x < 18446744073709551616) (hu : Nums w w.heap.size a l) :
    Calls Try.prog 16 #[.slice a l.length c] w (NumsC (D.diffs l) w.heap.size w) := by
  by_cases h : l = []
  · subst h; exact rdiffs_nil a c w
  · obtain ⟨b, off, rfl, hb, hc⟩ := hu h
    exact rdiffs_some b off c l w hl hx hb hc

set_option maxHeartbeats 1000000 in
set_option maxRecDepth 100000 in
theorem rsums_some (b off c : Nat) (l : List Nat) (w : World) (hl : l.length * 8 ≤ 140737488351232) (hx : ∀ x ∈ l, x < 18446744073709551616) (hb : b < w.heap.size)
    (hc : ∀ i, i < l.length → w.cell? ⟨b, off + i, none⟩ = some (.int .u64 ((l.getD i 0 : Nat) : Int))) :
    Calls Try.prog 17 #[.slice (some ⟨b, off, none⟩) l.length c] w (NumsC (D.sums l) w.heap.size w) := by
  have HC := Lib.hid hc
  have HTK := Lib.hid (fun k h => D.runF_take D.fs 0 l k h)
  have HEL := Lib.hid (fun k => D.endF_lt D.fs (fun b x hb hx => (D.fs_lt b x hb hx).1) 0 (by decide) (l.take k) (fun x h => hx x (List.mem_of_mem_take h)))
  have HLN := Lib.hid (fun k (h : k ≤ l.length) => show (D.runF D.fs 0 (l.take k)).length = k by rw [D.runF_length, List.length_take]; omega)
  clear hc hx
  go_enter Try.func17, Try.ntmps17
  go_wp2_with fail
  go_loopw [3, 4, 5, 6] (fun v i _ _ wr => ∃ k : Nat, k ≤ l.length ∧ i = .int .i64 k ∧ NumRow w.heap.size (D.runF D.fs 0 (l.take k)) v wr ∧ Below w.heap.size w wr) (fun _ i _ _ _ => l.length - (intOf i).toNat)
  case atStart => exact ⟨0, by omega, rfl, ⟨rfl, Or.inl ⟨rfl, rfl⟩⟩, Below.refl _ _⟩
  case round =>
    obtain ⟨k, hk, rfl, hrow, hbw⟩ := hrel
    have hln := HLN.out k hk
    by_cases hlt : k < l.length
    · have HT := Lib.hid (show D.runF D.fs 0 (l.take (k + 1)) = D.runF D.fs 0 (l.take k) ++ [D.endF D.fs 0 (l.take (k + 1))] by
        rw [(HTK.out k hlt).1, (HTK.out k hlt).2]; rfl)
      generalize D.runF D.fs 0 (l.take k) = acc at *
      have hlb : (acc.length + 1) * 8 ≤ 140737488355328 := by omega
      have HROW := Lib.hid hrow
      have HLN2 := Lib.hid hln
      clear hrow hln
      have hkI : (k : Int) < (l.length : Int) := by omega
      obtain ⟨wo, rfl⟩ : ∃ wo : World, wo = wr := ⟨_, rfl⟩
      go_wp2_with fail
      go_loop [5, 6] (fun n j => ∃ q : Nat, q ≤ k + 1 ∧ j = .int .i64 q ∧ n = .int .u64 ((D.endF D.fs 0 (l.take q) : Nat) : Int)) (fun _ j => k + 1 - (intOf j).toNat)
      case atStart => exact ⟨0, by omega, rfl, rfl⟩
      case round =>
        obtain ⟨q, hq, rfl, rfl⟩ := hrel
        by_cases hqk : q ≤ k
        · have hqI : (q : Int) ≤ (k : Int) := by omega
          have cq := (hbw.cell (p := ⟨b, off + q, none⟩) hb).trans (HC.out q (by omega))
          have HE := Lib.hid (show D.endF D.fs 0 (l.take (q + 1)) = (D.endF D.fs 0 (l.take q) + l.getD q 0) % 18446744073709551616 from (HTK.out q (by omega)).2)
          generalize l.getD q 0 = x at *
          generalize D.endF D.fs 0 (l.take q) = y at *
          have hwrap : IntKind.u64.wrap ((y : Int) + (x : Int)) = (((y + x) % 18446744073709551616 : Nat) : Int) := by rw [IntKind.wrap_u64]; omega
          generalize (y + x) % 18446744073709551616 = z at *
          go_wp2_with fail
          exact ⟨⟨q + 1, by omega, by go_num, by rw [HE.out]⟩, by simp [intOf]; omega⟩
        · obtain rfl : q = k + 1 := by omega
          have hel := HEL.out (k + 1)
          generalize D.endF D.fs 0 (l.take (k + 1)) = z at *
          have hb5 : w.heap.size ≤ (wo.alloc (.cells #[.int .u64 (z : Int)] 23)).heap.size := by have := hbw.size; simp; omega
          have hown : wo.ownsRow w.heap.size 23 1 u3 acc.length (nv acc) := HROW.out
          have HOWN := Lib.hid hown
          clear hown
          have hqn : ((k + 1 : Nat) : Int) = (k : Int) + 1 := by omega
          go_wp2_with (at_builtin; refine wpList_append_one rfl (.tmp 24) (.tmp 26) rfl w.heap.size _ acc.length _ rfl (HOWN.out.alloc _) wo.heap.size z rfl (World.cell?_alloc_new _ _ _ _) hlb hb5 ?_)
          intro v' w5 hown5 hgrow5
          have hbw5 : Below w.heap.size w w5 := (hbw.alloc hbw.size _).grown hgrow5 (by have := hbw.size; simp; omega) (fun k hk => (HOWN.out.lt k hk).1)
          go_wp2_with fail
          refine ⟨⟨k + 1, by omega, by go_num, ?_, hbw5⟩, by simp [intOf]; omega⟩
          rw [HT.out]; unfold NumRow; rw [List.length_append]; simpa [nv] using hown5
    · obtain rfl : k = l.length := by omega
      rw [List.take_length] at hrow
      obtain ⟨a', c', rfl, hn, h1, h2⟩ := numRow_numsc hrow
      have hsl := D.sums_length l
      have HSL : D.runF D.fs 0 l = D.sums l := rfl
      rw [HSL] at hn h1 ⊢
      rw [hsl] at h1 ⊢
      go_wp2_with fail
      go_ret
      exact ⟨a', c', by rw [D.sums_length]; rfl, hn, by rw [D.sums_length]; exact h1, h2, hbw⟩

set_option maxHeartbeats 400000 in
theorem rsums_nil (a : Option Addr) (c : Nat) (w : World) :
    Calls Try.prog 17 #[.slice a 0 c] w (NumsC [] w.heap.size w) := by
  go_enter Try.func17, Try.ntmps17
  go_wp2_with fail
  refine wp_loop_rounds 1 ?_
  rw [rounds_succ]
  go_wp2_with fail
  go_ret
  exact ⟨none, 0, rfl, Nums.nil _ _ _, Nat.le_refl _, by unfold maxLen; omega, Below.refl _ _⟩

theorem rsums_any (a : Option Addr) (c : Nat) (l : List Nat) (w : World) (hl : l.length * 8 ≤ 140737488351232) (hx : ∀ x ∈ l, x < 18446744073709551616) (hu : Nums w w.heap.size a l) :
    Calls Try.prog 17 #[.slice a l.length c] w (NumsC (D.sums l) w.heap.size w) := by
  by_cases h : l = []
  · subst h; exact rsums_nil a c w
  · obtain ⟨b, off, rfl, hb, hc⟩ := hu h
    exact rsums_some b off c l w hl hx hb hc
end Go.Proofs.Ytpjmpbpbfjemdaa
