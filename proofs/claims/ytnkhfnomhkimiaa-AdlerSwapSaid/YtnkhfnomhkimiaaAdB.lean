/- The walks of hypostylelaw.adlerBegun and hypostyleref.ByteText. -/
import Derived.Test.YtnkhfnomhkimiaaAdR1
import Derived.Test.YtnkhfnomhkimiaaWB
import Derived.Test.YtnkhfnomhkimiaaLift
namespace Go.Proofs.Ytnkhfnomhkimiaa
open Go.RowKit
set_option linter.unusedVariables false

theorem nat_u32 {a : Int} (h : (Lit.int .u32 a).wf = true) : ∃ n : Nat, a = n ∧ n < 4294967296 := by
  have hb : 0 ≤ a ∧ a ≤ 4294967295 := by simpa [Lit.wf, IntKind.min, IntKind.max, IntKind.signed, IntKind.bits] using h
  exact ⟨a.toNat, by omega, by omega⟩
theorem nat_u8 {a : Int} (h : (Lit.int .u8 a).wf = true) : ∃ n : Nat, a = n ∧ n < 256 := by
  have hb : 0 ≤ a ∧ a ≤ 255 := by simpa [Lit.wf, IntKind.min, IntKind.max, IntKind.signed, IntKind.bits] using h
  exact ⟨a.toNat, by omega, by omega⟩
theorem str_app (a b : List UInt8) : str a ++ str b = str (a ++ b) := by
  apply ByteArray.ext
  simp [str]
theorem lit_text (l : List UInt8) (n : Nat) (h : l.length ≤ maxLen) (e : Ad.of l = n) (B : ByteArray) (hB : B = str l) (W : World) : Calls Try.prog 13 #[.string B] W (U32Post n W) := by
  subst hB; rw [← e]; exact of_any l W h

set_option maxHeartbeats 4000000 in
set_option maxRecDepth 100000 in
theorem adlerBegun_any (w : World) : Calls Try.prog 12 #[] w (BoolPost true w) := by
  have o1 := Lib.hid (fun W => lit_text [87, 105, 107, 105] 64618901 (by decide) (by decide +kernel) ⟨#[87, 105, 107, 105]⟩ rfl W)
  have o2 := Lib.hid (fun W => lit_text [112, 101, 100, 105, 97] 103285252 (by decide) (by decide +kernel) ⟨#[112, 101, 100, 105, 97]⟩ rfl W)
  have o3 := Lib.hid (fun W => lit_text [97, 98, 99, 100] 64487819 (by decide) (by decide +kernel) ⟨#[97, 98, 99, 100]⟩ rfl W)
  have o4 := Lib.hid (fun W => lit_text [87, 105, 107, 105, 112, 101, 100, 105, 97] 300286872 (by decide) (by decide +kernel) ⟨#[87, 105, 107, 105, 112, 101, 100, 105, 97]⟩ rfl W)
  have o5 := Lib.hid (fun W => lit_text [] 1 (by decide) (by decide +kernel) ⟨#[]⟩ rfl W)
  have o6 := Lib.hid (fun W => lit_text [98, 99, 100, 101] 65143183 (by decide) (by decide +kernel) ⟨#[98, 99, 100, 101]⟩ rfl W)
  have j := Lib.hid (fun W => show Calls Try.prog 8 #[.int .u32 64618901, .int .u32 103285252, .int .i64 5] W (JPost 300286872 0 W) from by
    have h := joined_ok 64618901 103285252 5 W (by omega) (by omega) (by omega)
    rw [show Ad.joined 64618901 103285252 5 = 300286872 by decide +kernel] at h
    exact h)
  have r1 := Lib.hid (fun W => show Calls Try.prog 9 #[.int .u32 64487819, .int .i64 4, .int .u8 97, .int .u8 101] W (JPost 65143183 0 W) from by
    have h := roll_ok 64487819 4 97 101 W (by omega) (by omega) (by omega) (by omega) (by omega)
    rw [show Ad.rolled 64487819 4 97 101 = 65143183 by decide +kernel] at h
    exact h)
  have r2 := Lib.hid (fun W => show Calls Try.prog 9 #[.int .u32 1, .int .i64 0, .int .u8 0, .int .u8 0] W (JPost 0 3 W) from
    roll_bad 1 0 0 0 W (by omega) (by omega))
  go_enter Try.func12, Try.ntmps12
  go_wp2_with fail
  refine (o1.out _).mono ?_
  rintro e w1 ⟨rfl, hb1⟩
  go_wp2_with fail
  refine (o2.out _).mono ?_
  rintro e w2 ⟨rfl, hb2⟩
  go_wp2_with fail
  refine (j.out _).mono ?_
  rintro e w3 ⟨rfl, hb3⟩
  go_wp2_with fail
  refine (o3.out _).mono ?_
  rintro e w4 ⟨rfl, hb4⟩
  go_wp2_with fail
  refine (r1.out _).mono ?_
  rintro e w5 ⟨rfl, hb5⟩
  go_wp2_with fail
  refine (r2.out _).mono ?_
  rintro e w6 ⟨rfl, hb6⟩
  go_wp2_with fail
  refine (o4.out _).mono ?_
  rintro e w7 ⟨rfl, hb7⟩
  go_wp2_with fail
  refine (o5.out _).mono ?_
  rintro e w8 ⟨rfl, hb8⟩
  go_wp2_with fail
  refine (o6.out _).mono ?_
  rintro e w9 ⟨rfl, hb9⟩
  go_wp2_with fail
  go_ret
  exact ⟨rfl, below_then (below_then (below_then (below_then (below_then (below_then (below_then (below_then hb1 hb2) hb3) hb4) hb5) hb6) hb7) hb8) hb9⟩

theorem run_text_u8 (w : World) (x : UInt8) :
    (convert 43 9 (.slice (some ⟨w.heap.size, 0, none⟩) 1 1)).run Try.prog (w.alloc (.cells #[.int .u8 (x.toNat : Int)] 5)) = .ok (.string (str [x])) (w.alloc (.cells #[.int .u8 (x.toNat : Int)] 5)) := by
  rw [← str_of [x]]
  refine run_convert_bytes_arg _ 43 5 Try.underlying43 Try.underlying5 _ 0 1 1 _ (by simp) ?_ 9 Try.underlying9
  intro i hi
  obtain rfl : i = 0 := by omega
  rw [Nat.zero_add, World.cell?_alloc_new]; rfl
set_option maxHeartbeats 400000 in
theorem byteText_any (x : UInt8) (w : World) :
    Calls Try.prog 16 #[.int .u8 (x.toNat : Int)] w (fun e w' => e = .returned (.string (str [x])) ∧ Below w.heap.size w w') := by
  have htx := run_text_u8 w x
  generalize (x.toNat : Int) = n at *
  go_enter Try.func16, Try.ntmps16
  go_wp2_with fail
  go_ret
  exact ⟨rfl, (Below.refl _ _).alloc (Nat.le_refl _) _⟩
end Go.Proofs.Ytnkhfnomhkimiaa
