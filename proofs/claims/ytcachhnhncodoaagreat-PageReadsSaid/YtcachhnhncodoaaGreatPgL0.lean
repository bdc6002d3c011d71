/- The walk of hypostylelaw.pageBegun. -/
import Derived.Test.YtcachhnhncodoaaGreatPgW9
import Derived.Test.YtcachhnhncodoaaGreatPgW10
import Derived.Test.YtcachhnhncodoaaGreatP10
namespace Go.Proofs.YtcachhnhncodoaaGreat
open Go.RowKit
set_option linter.unusedVariables false

def pgl : List C.Cl := [⟨1, 5, []⟩, C.null, ⟨1, 7, []⟩]
def pgs : List UInt8 := [7, 1, 3, 2, 5, 1, 3, 61, 0, 132, 0, 77]
theorem pgl_chk : C.chk 1 pgl = 0 := by decide +kernel
theorem pgl_ok : ∀ x ∈ pgl, cOk x := by
  intro x hx
  simp only [pgl, List.mem_cons, List.not_mem_nil, or_false] at hx
  rcases hx with rfl | rfl | rfl <;> simp [cOk, C.null, maxLen]
theorem pgs_is : Pg.sealB (Pg.bodyP 1 pgl) = pgs := by decide +kernel
theorem pgs_read : Pg.readR (pgs ++ [122]) = (1, pgl, 12, 0) := by
  have h := Pg.read_back pgl_chk pgl_ok (by have := Pg.body_len pgl_chk pgl_ok; omega) [122]
  rw [pgs_is] at h; exact h
theorem pgs_cut : Pg.readR (pgs.take 11) = (0, [], 0, 5) := by
  unfold Pg.readR
  have h := Pg.open_cut (Pg.bodyP 1 pgl) 11 (by have := Pg.body_len pgl_chk pgl_ok; omega) (by rw [pgs_is]; decide)
  rw [pgs_is] at h
  rw [h]; rfl
theorem pgz_read : Pg.readR [0, 0, 0, 0, 1] = (0, [], 0, 5) := by decide +kernel

theorem csame_t (n : Nat) (ms : List C.Cl) (hn : ms.length = n ∧ n ≤ 64) (am a2 : Option Addr) (cm c2 : Nat) (W : World) (h1 : Cls W W.heap.size am ms) (h2 : Cls W W.heap.size a2 ms) : Calls Tryz.prog 14 #[.slice am n cm, .slice a2 n c2] W (BoolPost true W) := by
  have h := csame_any am a2 cm c2 ms ms W _ h1 h2 (by omega)
  rw [decide_eq_true rfl, hn.1] at h; exact h

set_option maxHeartbeats 4000000 in
set_option maxRecDepth 100000 in
theorem pgbegun_any (w : World) : Calls Tryz.prog 11 #[] w (BoolPost true w) := by
  have HN5 := Lib.hid (fun W => cnum_any 5 W)
  have HN7 := Lib.hid (fun W => cnum_any 7 W)
  have HCL := Lib.hid (fun W => show Cls (W.alloc (.cells #[.int .i64 1, .int .u64 5, .string ⟨#[]⟩, .int .i64 0, .int .u64 0, .string ⟨#[]⟩, .int .i64 1, .int .u64 7, .string ⟨#[]⟩] 50)) (W.alloc (.cells #[.int .i64 1, .int .u64 5, .string ⟨#[]⟩, .int .i64 0, .int .u64 0, .string ⟨#[]⟩, .int .i64 1, .int .u64 7, .string ⟨#[]⟩] 50)).heap.size (some ⟨W.heap.size, 0, none⟩) pgl from cls_lit W pgl)
  have HW := Lib.hid (fun W g (h : Cls W W.heap.size (some ⟨g, 0, none⟩) pgl) => show Calls Tryz.prog 9 #[.int .i64 1, .slice (some ⟨g, 0, none⟩) 3 3] W (fun e w' => e = .returned (.tuple #[.string (str pgs), .int .i64 0]) ∧ Below W.heap.size W w') from by
    have h2 := pgwrite1_any (some ⟨g, 0, none⟩) 3 pgl W (by simp [pgl, maxLen]) pgl_chk pgl_ok h
    rw [pgs_is] at h2; exact h2)
  have HR1 := Lib.hid (fun W => show Calls Tryz.prog 12 #[.string (str (pgs ++ [122]))] W (fun e w' => ∃ v, e = .returned (.tuple #[.int .i64 1, v, .int .i64 12, .int .i64 0]) ∧ CRow W.heap.size pgl v w' ∧ ((0 : Nat) ≠ 0 → v = .slice none 0 0) ∧ Below W.heap.size W w') from by
    have h2 := pgread_any (pgs ++ [122]) W (by simp [pgs, maxLen])
    rw [pgs_read] at h2; exact h2)
  have HR2 := Lib.hid (fun W => show Calls Tryz.prog 12 #[.string (str (pgs.take 11))] W (fun e w' => e = .returned (.tuple #[.int .i64 0, .slice none 0 0, .int .i64 0, .int .i64 5]) ∧ Below W.heap.size W w') from
    pgread_bad pgs_cut (by decide) W (by simp [pgs, maxLen]))
  have HR3 := Lib.hid (fun W => show Calls Tryz.prog 12 #[.string ⟨#[0, 0, 0, 0, 1]⟩] W (fun e w' => e = .returned (.tuple #[.int .i64 0, .slice none 0 0, .int .i64 0, .int .i64 5]) ∧ Below W.heap.size W w') from
    pgread_bad pgz_read (by decide) W (by simp [maxLen]))
  have HSM := Lib.hid (fun am a2 cm c2 W h1 h2 => csame_t 3 pgl ⟨rfl, by omega⟩ am a2 cm c2 W h1 h2)
  have hsz : (str pgs).size = 12 := rfl
  have HX1 := Lib.hid (show str pgs ++ ⟨#[122]⟩ = str (pgs ++ [122]) from str_append pgs [122])
  have hx2 := (show (str pgs).extract 0 11 = str (pgs.take 11) by have := str_cut pgs 0 11; simpa using this)
  have hx3 : ((str pgs).extract 0 8).toList = [7, 1, 3, 2, 5, 1, 3, 61] := by have := str_cut pgs 0 8; rw [show (0 + 8 : Nat) = 8 from rfl] at this; rw [this, str_toList]; rfl
  have hpl : pgl.length = 3 := rfl
  have hmx : max (0 : Int) 11 = 11 := by decide
  have hmn : min (8 : Int) 12 = 8 := by decide
  generalize str (pgs ++ [122]) = S1 at *
  generalize str (pgs.take 11) = S2 at *
  generalize str pgs = S at *
  go_enter Tryz.func11, Tryz.ntmps11
  go_wp2_with fail
  refine (HN5.out _).mono ?_
  rintro e w1 ⟨rfl, hb1⟩
  go_wp2_with fail
  refine (HN7.out _).mono ?_
  rintro e w2 ⟨rfl, hb2⟩
  have h2 := below_then hb1 hb2
  go_wp2_with fail
  have hcl := HCL.out w2
  have h3 := h2.alloc h2.size (.cells #[.int .i64 1, .int .u64 5, .string ⟨#[]⟩, .int .i64 0, .int .u64 0, .string ⟨#[]⟩, .int .i64 1, .int .u64 7, .string ⟨#[]⟩] 50)
  refine (ccells_any _ _).mono ?_
  rintro e w4 ⟨rfl, rfl⟩
  go_wp2_with fail
  refine (HW.out _ _ hcl).mono ?_
  rintro e w5 ⟨rfl, hb5⟩
  have h5 := below_then h3 hb5
  have c5 := hcl.next hb5
  go_wp2_with fail
  rw [HX1.out]
  refine (HR1.out _).mono ?_
  rintro e w6 ⟨v6, rfl, hrow6, -, hb6⟩
  obtain ⟨a6, c6, rfl, d6, _⟩ := cRow_cls hrow6
  have h6 := below_then h5 hb6
  have c6' := c5.next hb6
  go_wp2_with fail
  refine (HR2.out _).mono ?_
  rintro e w7 ⟨rfl, hb7⟩
  have h7 := below_then h6 hb7
  have d7 := d6.next hb7
  have c7 := c6'.next hb7
  go_wp2_with fail
  refine (HR3.out _).mono ?_
  rintro e w8 ⟨rfl, hb8⟩
  have h8 := below_then h7 hb8
  have d8 := d7.next hb8
  have c8 := c7.next hb8
  go_wp2_with fail
  refine (HSM.out _ _ _ _ _ d8 c8).mono ?_
  rintro e w9 ⟨rfl, hb9⟩
  go_wp2_with fail
  go_ret
  exact ⟨rfl, below_then h8 hb9⟩

end Go.Proofs.YtcachhnhncodoaaGreat
