/- bits.Unpack once more: with the room of what it makes. -/
import Derived.Test.YtpjmpbpbfjemdaaBitsF
namespace Go.Proofs.Ytpjmpbpbfjemdaa
open Go.RowKit
set_option linter.unusedVariables false

def AllPostC (r : List Nat × Nat) (w : World) (e : Ending) (w' : World) : Prop :=
  ∃ a c, e = .returned (.tuple #[.slice a r.1.length c, .int .i64 r.2]) ∧ Nums w' w'.heap.size a r.1 ∧ r.1.length ≤ c ∧ c ≤ maxLen ∧ Below w.heap.size w w'

theorem numRow_numsc {B : Nat} {xs : List Nat} {v : Value} {w : World} (h : NumRow B xs v w) : ∃ a c, v = .slice a xs.length c ∧ Nums w w.heap.size a xs ∧ xs.length ≤ c ∧ c ≤ maxLen := by
  have h' := h
  unfold NumRow at h
  rcases h.2 with ⟨rfl, h0⟩ | ⟨g, cap, cur, rfl, e2, e3, e4, e5, _⟩
  · refine ⟨none, 0, by rw [h0], ?_, by omega, by unfold maxLen; omega⟩
    rw [List.eq_nil_of_length_eq_zero h0]; exact Nums.nil _ _ _
  · obtain ⟨a, c, e, hn⟩ := numRow_nums h'
    injection e with x1 x2 x3
    subst x1 x3
    exact ⟨_, _, rfl, hn, e4, e5⟩

theorem OwnB.numsc {base B : Nat} {w : World} {xs : List Nat} (h : OwnB base B w xs) : ∃ a c, w.cell? ⟨B, 0, none⟩ = some (.slice a xs.length c) ∧ Nums w w.heap.size a xs ∧ xs.length ≤ c ∧ c ≤ maxLen := by
  obtain ⟨h0, v, hv, hown⟩ := h
  obtain ⟨a, c, rfl, hn, h1, h2⟩ := numRow_numsc hown
  exact ⟨a, c, cell_of_one hv, hn, h1, h2⟩

theorem unpR_eq (d : List UInt8) (m n : Nat) (hm : m ≤ 64) (hn : n ≤ 64) (hd : d.length = B.sz (m * n)) : unpR d m n = if B.leN d / 2 ^ (m * n) ≠ 0 then ([], 1) else (B.dg n m (B.leN d), 0) := by
  have e : chkR d m n = if B.leN d / 2 ^ (m * n) ≠ 0 then 1 else 0 := by
    unfold chkR
    rw [if_neg (by omega), if_neg (by omega), Int.toNat_natCast, Int.toNat_natCast]
    unfold chkF
    simp [hd]
  unfold unpR
  by_cases h : B.leN d / 2 ^ (m * n) ≠ 0
  · rw [e, if_pos h, if_pos h]; rfl
  · rw [e, if_neg h, if_neg h, if_pos rfl, Int.toNat_natCast, Int.toNat_natCast]

set_option maxHeartbeats 1000000 in
set_option maxRecDepth 100000 in
theorem unpackc_any (s : ByteArray) (many wide : Int) (w : World) (hs : s.size ≤ maxLen) :
    Calls Try.prog 80 #[.string s, .int .i64 many, .int .i64 wide] w (AllPostC (unpR s.data.toList many wide) w) := by
  have hmf : ∀ (fn : Fn) (first cap : Array Value) (w : World), (Instr.makeFunc fn first cap).run Try.prog w = .ok (.func fn first cap) w := fun _ _ _ _ => rfl
  obtain ⟨i0, hi, hz0, hz1, hz2⟩ := info_parts info_u64
  have hck := fun w => check_any s many wide w hs
  by_cases hc : chkR s.data.toList many wide = 0
  · obtain ⟨m, n, rfl, rfl, hm, hn, hl, hq⟩ := chk_zero _ _ _ hc
    have HR := Lib.hid (show unpR s.data.toList m n = (B.dg n m (B.leN s.data.toList), 0) by rw [unpR, if_pos hc]; simp)
    rw [hc] at hck
    have HCK := Lib.hid hck
    rw [len_data] at hl
    have hmn : m * n ≤ 64 * 64 := Nat.mul_le_mul hm hn
    have h8 : m * n ≤ 8 * s.size ∧ s.size ≤ 4096 := by rw [hl]; unfold B.sz; omega
    have HBE := Lib.hid (fun base Bk w ho => beach_any base Bk s m n w hn hm h8.1 h8.2 ho)
    clear hck hc hq hl hmn h8
    generalize B.dg n m (B.leN s.data.toList) = xs at *
    go_enter Try.func80, Try.ntmps80
    go_wp2_with fail
    refine (HCK.out _).mono ?_
    rintro e w1 ⟨rfl, rfl⟩
    go_wp2_with (at_make; refine wpList_make_own _ rfl _ _ 22 rfl w.heap.size 23 i0 (.int .u64 0) 1 Try.underlying22 hi hz0 hz1 .i64 .i64 _ m rfl rfl rfl (by rw [hz2]; omega) (by unfold maxLen; omega) (Nat.le_refl _) ?_; intro w0 hown0 hgrow0)
    have hb0 : Below w.heap.size w w0 := (Below.refl _ _).grown hgrow0 (Nat.le_refl _) (fun k hk => by cases hk)
    have hob : OwnB w.heap.size w0.heap.size (w0.alloc (.cells #[.slice (some ⟨w.heap.size, 0, none⟩) 0 m] 22)) [] :=
      ⟨hb0.size, _, heap_alloc_new w0 _, hown0.alloc _⟩
    clear hown0 hgrow0
    go_wp2_with fail
    refine (HBE.out w.heap.size w0.heap.size _ hob).mono ?_
    rintro e w2 ⟨rfl, ho2, hb2⟩
    obtain ⟨a, c, hcell, hnum, hlc, hcm⟩ := ho2.numsc
    go_wp2_with fail
    go_ret2
    rw [HR.out]
    exact ⟨a, c, rfl, hnum, hlc, hcm, (hb0.alloc hb0.size _).trans hb2⟩
  · have HR := Lib.hid (show unpR s.data.toList many wide = ([], chkR s.data.toList many wide) by rw [unpR, if_neg hc])
    have g1 : ((chkR s.data.toList many wide : Int) != 0) = true := by rw [bne_iff_ne]; omega
    generalize chkR s.data.toList many wide = er at *
    have HCK := Lib.hid hck
    clear hck hc
    go_enter Try.func80, Try.ntmps80
    go_wp2_with fail
    refine (HCK.out _).mono ?_
    rintro e w1 ⟨rfl, rfl⟩
    go_wp2_with fail
    go_ret2
    rw [HR.out]
    exact ⟨none, 0, rfl, Nums.nil _ _ _, Nat.le_refl _, by unfold maxLen; omega, Below.refl _ _⟩

end Go.Proofs.Ytpjmpbpbfjemdaa
