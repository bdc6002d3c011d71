/- The walk of hybrid.first. -/
import Derived.Test.YtpjmpbpbfjemdaaHW7
import Derived.Test.YtpjmpbpbfjemdaaBitsU2
namespace Go.Proofs.Ytpjmpbpbfjemdaa
open Go.RowKit
set_option linter.unusedVariables false

/-- a part as a value -/
def PV (W : World) (v : Value) : H.Part → Prop
  | .run n m => v = .iface 84 (.agg #[.int .u64 n, .int .i64 m])
  | .blk l => ∃ a c, v = .iface 85 (.slice a l.length c) ∧ Nums W W.heap.size a l
def FirstPost (r : Nat × H.Part × Nat) (w : World) (e : Ending) (w' : World) : Prop :=
  Below w.heap.size w w' ∧ (if r.1 = 0 then ∃ v, e = .returned (.tuple #[v, .int .i64 r.2.2, .int .i64 0]) ∧ PV w' v r.2.1 else e = .returned (.tuple #[.nilIface, .int .i64 0, .int .i64 r.1]))
theorem FirstPost.bad {r : Nat × H.Part × Nat} {er : Nat} {w w' : World} (h : Below w.heap.size w w') (hr : r.1 = er) (he : er ≠ 0) : FirstPost r w (.returned (.tuple #[.nilIface, .int .i64 0, .int .i64 er])) w' := by
  refine ⟨h, ?_⟩
  rw [if_neg (by omega), hr]
theorem FirstPost.good {r : Nat × H.Part × Nat} {p : H.Part} {n : Nat} {v : Value} {w w' : World} (h : Below w.heap.size w w') (hr : r = (0, p, n)) (hv : PV w' v p) : FirstPost r w (.returned (.tuple #[v, .int .i64 n, .int .i64 0])) w' := by
  subst hr
  exact ⟨h, v, rfl, hv⟩

theorem vread_any (s : ByteArray) (w : World) (hs : s.size ≤ maxLen) : Calls Try.prog 66 #[.string s] w (ReadPost (V.rd s.data.toList) w) := by
  by_cases h : s.size = 0
  · rw [data_empty s h]; exact read_empty s w (empty_true s h)
  · exact read_any s w hs (by omega) (empty_false s h)

theorem first_e1 (s : List UInt8) (left w e : Nat) (h : (V.rd s).2.2 = e) (he : e ≠ 0) : (H.first s left w).1 = e := by
  unfold H.first; rw [if_pos (by omega)]; exact h
theorem first_ok (s : List UInt8) (left w h k : Nat) (hr : V.rd s = (h, k, 0)) : H.first s left w = H.firstL s h k left w := by
  unfold H.first; rw [hr]; simp

set_option maxHeartbeats 1000000 in
set_option maxRecDepth 100000 in
theorem first_rd (s : ByteArray) (left wide e : Nat) (w : World) (hs : s.size ≤ maxLen) (he : e ≠ 0) (hr : V.rd s.data.toList = (0, 0, e)) :
    Calls Try.prog 87 #[.string s, .int .i64 left, .int .i64 wide] w (FirstPost (H.first s.data.toList left wide) w) := by
  have HF := Lib.hid (first_e1 s.data.toList left wide e (by rw [hr]) he)
  have hv := fun w => vread_any s w hs
  rw [hr] at hv
  have HV := Lib.hid hv
  have g1 : ((e : Int) != 0) = true := by rw [bne_iff_ne]; omega
  generalize H.first s.data.toList left wide = r at *
  clear hv hr
  go_enter Try.func87, Try.ntmps87
  go_wp2_with fail
  refine (HV.out _).mono ?_
  rintro e1 w1 ⟨rfl, hb⟩
  go_wp2_with fail
  go_ret3
  exact FirstPost.bad hb HF.out he

set_option maxHeartbeats 1000000 in
set_option maxRecDepth 100000 in
theorem first_fit (s : ByteArray) (left wide h k z : Nat) (w : World) (hs : s.size ≤ maxLen) (hl : left ≤ 64) (hh : h < 18446744073709551616) (hr : V.rd s.data.toList = (h, k, 0)) (hz : H.fit h left = z) (he : z ≠ 0) :
    Calls Try.prog 87 #[.string s, .int .i64 left, .int .i64 wide] w (FirstPost (H.first s.data.toList left wide) w) := by
  have HF := Lib.hid (show (H.first s.data.toList left wide).1 = z by rw [first_ok _ _ _ _ _ hr]; unfold H.firstL; rw [if_pos (by omega)]; exact hz)
  have hv := fun w => vread_any s w hs
  rw [hr] at hv
  have HV := Lib.hid hv
  have hft := fun w => hfit_any h left w hh hl
  rw [hz] at hft
  have HFT := Lib.hid hft
  have g1 : ((z : Int) != 0) = true := by rw [bne_iff_ne]; omega
  generalize H.first s.data.toList left wide = r at *
  clear hv hr hft hz
  go_enter Try.func87, Try.ntmps87
  go_wp2_with fail
  refine (HV.out _).mono ?_
  rintro e1 w1 ⟨rfl, hb⟩
  go_wp2_with fail
  refine (HFT.out _).mono ?_
  rintro e1 w2 ⟨rfl, rfl⟩
  go_wp2_with fail
  go_ret3
  exact FirstPost.bad hb HF.out he
end Go.Proofs.Ytpjmpbpbfjemdaa
