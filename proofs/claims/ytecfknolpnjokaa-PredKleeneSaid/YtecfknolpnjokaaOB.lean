/- The walks of cText, cOp, conds, predBegun. -/
import Derived.Test.YtecfknolpnjokaaOW9
import Derived.Test.YtecfknolpnjokaaQ3
namespace Go.Proofs.Ytecfknolpnjokaa
open Go.RowKit
set_option linter.unusedVariables false

set_option maxHeartbeats 1000000 in
set_option maxRecDepth 100000 in
theorem octext_any (s : ByteArray) (w : World) : Calls Try.prog 32 #[.string s] w (CellPost (.agg #[.int .i64 2, .int .u64 0, .string s]) w) := by
  have q0 := tri_new w (.int .i64 0) (.int .u64 0) (.string ByteArray.empty)
  go_enter Try.func32, Try.ntmps32
  go_wp2_with fail
  refine bodyPost_ret (v := .agg #[.int .i64 2, .int .u64 0, .string s]) (by simp [results, Try.results32, go_sem]) rfl ⟨rfl, ?_⟩
  exact (Below.refl _ _).alloc (Nat.le_refl _) _
set_option maxHeartbeats 1000000 in
set_option maxRecDepth 100000 in
theorem cop_any (op : Int) (w : World) : Calls Try.prog 19 #[.int .i64 op] w (CellPost (.agg #[.int .i64 op, .int .i64 0, .int .i64 0, .int .u64 0, .string ⟨#[]⟩]) w) := by
  have q0 := pen_new w (.int .i64 0) (.int .i64 0) (.int .i64 0) (.int .u64 0) (.string ByteArray.empty)
  go_enter Try.func19, Try.ntmps19
  go_wp2_with fail
  refine bodyPost_ret (v := .agg #[.int .i64 op, .int .i64 0, .int .i64 0, .int .u64 0, .string ⟨#[]⟩]) (by simp [results, Try.results19, go_sem]) rfl ⟨rfl, ?_⟩
  exact (Below.refl _ _).alloc (Nat.le_refl _) _
theorem conds_any (v : Value) (w : World) : Calls Try.prog 29 #[v] w (ValPost v w) := by
  go_enter Try.func29, Try.ntmps29
  go_wp2_with fail
  go_ret
  exact ⟨rfl, rfl⟩

abbrev bP : List O.Cd := [⟨3, 0, ⟨1, 5, []⟩⟩, ⟨4, 1, C.null⟩, ⟨7, 0, C.null⟩, ⟨5, 0, C.null⟩]
abbrev bK : List Int := [1, 2]
abbrev bS : List S.St := [⟨2, 0, ⟨1, 1, []⟩, ⟨1, 5, []⟩⟩, ⟨2, 1, ⟨2, 0, [97]⟩, ⟨2, 0, [97]⟩⟩]
abbrev bF : List Bl.F := [Bl.none_, Bl.none_]
def strA : ByteArray := ⟨#[97]⟩
def pCells : Array Value := #[.int .i64 3, .int .i64 0, .int .i64 1, .int .u64 5, .string ⟨#[]⟩, .int .i64 4, .int .i64 1, .int .i64 0, .int .u64 0, .string ⟨#[]⟩, .int .i64 7, .int .i64 0, .int .i64 0, .int .u64 0, .string ⟨#[]⟩, .int .i64 5, .int .i64 0, .int .i64 0, .int .u64 0, .string ⟨#[]⟩]
def sCells : Array Value := #[.int .i64 2, .int .i64 0, .int .i64 1, .int .u64 1, .string ⟨#[]⟩, .int .i64 1, .int .u64 5, .string ⟨#[]⟩, .int .i64 2, .int .i64 1, .int .i64 2, .int .u64 0, .string ⟨#[97]⟩, .int .i64 2, .int .u64 0, .string ⟨#[97]⟩]
def fCells : Array Value := #[.int .u64 0, .int .u64 0, .int .u64 0, .int .u64 0, .int .u64 0, .int .u64 0, .int .u64 0, .int .u64 0]
theorem ocell_new (w : World) (cs : Array Value) (t : TypeId) (i : Nat) : (w.alloc (.cells cs t)).cell? ⟨w.heap.size, i, none⟩ = cs[i]? := World.cell?_alloc_new _ _ _ _
theorem p_lit (w : World) : Cds (w.alloc (.cells pCells 51)) (w.alloc (.cells pCells 51)).heap.size (some ⟨w.heap.size, 0, none⟩) bP := by
  intro _
  refine ⟨w.heap.size, 0, rfl, by simp, fun i hi => ?_⟩
  have hi4 : i < 4 := hi
  have : i = 0 ∨ i = 1 ∨ i = 2 ∨ i = 3 := by omega
  unfold at5
  rw [ocell_new, ocell_new, ocell_new, ocell_new, ocell_new]
  rcases this with rfl | rfl | rfl | rfl <;> exact ⟨rfl, rfl, rfl, rfl, rfl⟩
theorem s_lit (w : World) : Sts (w.alloc (.cells sCells 40)) (w.alloc (.cells sCells 40)).heap.size (some ⟨w.heap.size, 0, none⟩) bS := by
  intro _
  refine ⟨w.heap.size, 0, rfl, by simp, fun i hi => ?_⟩
  have hi2 : i < 2 := hi
  have : i = 0 ∨ i = 1 := by omega
  unfold at8
  rw [ocell_new, ocell_new, ocell_new, ocell_new, ocell_new, ocell_new, ocell_new, ocell_new]
  rcases this with rfl | rfl <;> exact ⟨rfl, rfl, rfl, rfl, rfl, rfl, rfl, rfl⟩
theorem f_lit (w : World) : Fls (w.alloc (.cells fCells 43)) (w.alloc (.cells fCells 43)).heap.size (some ⟨w.heap.size, 0, none⟩) bF := by
  intro _
  refine ⟨w.heap.size, 0, rfl, by simp, fun i hi => ?_⟩
  have hi2 : i < 2 := hi
  have : i = 0 ∨ i = 1 := by omega
  unfold at4
  rw [ocell_new, ocell_new, ocell_new, ocell_new]
  rcases this with rfl | rfl <;> exact ⟨rfl, rfl, rfl, rfl⟩
theorem k_lit (w : World) : Ints (w.alloc (.cells #[.int .i64 1, .int .i64 2] 3)) (w.alloc (.cells #[.int .i64 1, .int .i64 2] 3)).heap.size (some ⟨w.heap.size, 0, none⟩) bK := by
  intro _
  refine ⟨w.heap.size, 0, rfl, by simp, fun i hi => ?_⟩
  have hi2 : i < 2 := hi
  have : i = 0 ∨ i = 1 := by omega
  unfold at1
  rw [ocell_new]
  rcases this with rfl | rfl <;> rfl
theorem s_litd (w : World) : Sts (w.alloc (.cells sCells 40)).drew (w.alloc (.cells sCells 40)).drew.heap.size (some ⟨w.heap.size, 0, none⟩) bS := s_lit w
theorem f_litd (w : World) : Fls (w.alloc (.cells fCells 43)).drew (w.alloc (.cells fCells 43)).drew.heap.size (some ⟨w.heap.size, 0, none⟩) bF := f_lit w
theorem s_litf (w : World) : Sts ((w.alloc (.cells sCells 40)).alloc (.cells fCells 43)) ((w.alloc (.cells sCells 40)).alloc (.cells fCells 43)).heap.size (some ⟨w.heap.size, 0, none⟩) bS := (s_lit w).next at8_firm ((Below.refl _ _).alloc (Nat.le_refl _) _)
theorem s_litfd (w : World) : Sts ((w.alloc (.cells sCells 40)).alloc (.cells fCells 43)).drew ((w.alloc (.cells sCells 40)).alloc (.cells fCells 43)).drew.heap.size (some ⟨w.heap.size, 0, none⟩) bS := s_litf w
theorem f_lits (w : World) : Fls ((w.alloc (.cells fCells 43)).alloc (.cells sCells 40)) ((w.alloc (.cells fCells 43)).alloc (.cells sCells 40)).heap.size (some ⟨w.heap.size, 0, none⟩) bF := (f_lit w).next at4_firm ((Below.refl _ _).alloc (Nat.le_refl _) _)
theorem f_litsd (w : World) : Fls ((w.alloc (.cells fCells 43)).alloc (.cells sCells 40)).drew ((w.alloc (.cells fCells 43)).alloc (.cells sCells 40)).drew.heap.size (some ⟨w.heap.size, 0, none⟩) bF := f_lits w
theorem f_lit2 (w : World) : Fls ((w.alloc (.cells sCells 40)).alloc (.cells fCells 43)) ((w.alloc (.cells sCells 40)).alloc (.cells fCells 43)).heap.size (some ⟨w.heap.size + 1, 0, none⟩) bF := by
  have h := f_lit (w.alloc (.cells sCells 40))
  rwa [show (w.alloc (.cells sCells 40)).heap.size = w.heap.size + 1 by simp] at h
theorem f_lit2d (w : World) : Fls ((w.alloc (.cells sCells 40)).alloc (.cells fCells 43)).drew ((w.alloc (.cells sCells 40)).alloc (.cells fCells 43)).drew.heap.size (some ⟨w.heap.size + 1, 0, none⟩) bF := f_lit2 w
theorem s_lit2 (w : World) : Sts ((w.alloc (.cells fCells 43)).alloc (.cells sCells 40)) ((w.alloc (.cells fCells 43)).alloc (.cells sCells 40)).heap.size (some ⟨w.heap.size + 1, 0, none⟩) bS := by
  have h := s_lit (w.alloc (.cells fCells 43))
  rwa [show (w.alloc (.cells fCells 43)).heap.size = w.heap.size + 1 by simp] at h
theorem s_lit2d (w : World) : Sts ((w.alloc (.cells fCells 43)).alloc (.cells sCells 40)).drew ((w.alloc (.cells fCells 43)).alloc (.cells sCells 40)).drew.heap.size (some ⟨w.heap.size + 1, 0, none⟩) bS := s_lit2 w
theorem mk_fil (W : World) : (Instr.makeSlice 32 (.int .i64 2) (.int .i64 2)).run Try.prog W = .ok (.slice (some ⟨W.heap.size, 0, none⟩) 2 2) (W.alloc (.cells #[.int .u64 0, .int .u64 0, .int .u64 0, .int .u64 0, .int .u64 0, .int .u64 0, .int .u64 0, .int .u64 0] 43)) := by kernel_rfl
theorem c6_lit (w : World) : Cls (w.alloc (.cells #[.int .i64 1, .int .u64 6, .string ⟨#[]⟩] 38)) (w.alloc (.cells #[.int .i64 1, .int .u64 6, .string ⟨#[]⟩] 38)).heap.size (some ⟨w.heap.size, 0, none⟩) [⟨1, 6, []⟩] := cls_lit w [⟨1, 6, []⟩]
theorem c6_litd (w : World) : Cls (w.alloc (.cells #[.int .i64 1, .int .u64 6, .string ⟨#[]⟩] 38)).drew (w.alloc (.cells #[.int .i64 1, .int .u64 6, .string ⟨#[]⟩] 38)).drew.heap.size (some ⟨w.heap.size, 0, none⟩) [⟨1, 6, []⟩] := c6_lit w
theorem bP_ok : ∀ x ∈ bP, dOk x := by
  intro x hx
  simp only [bP, List.mem_cons, List.not_mem_nil, or_false] at hx
  rcases hx with rfl | rfl | rfl | rfl <;> (unfold dOk cOk; simp [maxLen, C.null])
theorem bS_ok : ∀ x ∈ bS, sOk x := by
  intro x hx
  simp only [bS, List.mem_cons, List.not_mem_nil, or_false] at hx
  rcases hx with rfl | rfl <;> (unfold sOk cOk; simp [maxLen])
theorem bF_ok : ∀ x ∈ bF, Bl.fOk x := by
  intro x hx
  simp only [bF, List.mem_cons, List.not_mem_nil, or_false] at hx
  rcases hx with rfl | rfl <;> exact Bl.none_ok
theorem v1 : O.askR bP bK [⟨1, 6, []⟩, ⟨2, 0, [97]⟩] = (2, 0) := by decide +kernel
theorem v2 : O.askR bP bK [C.null, ⟨2, 0, [97]⟩] = (1, 0) := by decide +kernel
theorem v3 : O.pruneR bP bK bS bF = (1, 0) := by decide +kernel
theorem v4 : O.askR bP [1] [⟨1, 6, []⟩] = (0, 3) := by decide +kernel
theorem v5 : O.check (bP.take 2) bK = 1 := by decide +kernel

set_option maxHeartbeats 8000000 in
set_option maxRecDepth 100000 in
theorem predBegun_any (w : World) : Calls Try.prog 10 #[] w (BoolPost true w) := by
  have HN := Lib.hid (fun n W => cnum_any n W)
  have HT := Lib.hid (fun W => octext_any ⟨#[97]⟩ W)
  have HO := Lib.hid (fun op W => cop_any op W)
  have hk0 := k_lit w
  have hbk : Below w.heap.size w (w.alloc (.cells #[.int .i64 1, .int .i64 2] 3)) := (Below.refl _ _).alloc (Nat.le_refl _) _
  go_enter Try.func10, Try.ntmps10
  go_wp2_with fail
  refine (HN.out 5 _).mono ?_
  rintro e w1 ⟨rfl, hb1⟩
  have hk1 := hk0.next at1_firm hb1
  have hb1 := below_then hbk hb1
  go_wp2_with fail
  refine (HO.out 7 _).mono ?_
  rintro e w2 ⟨rfl, hb2⟩
  have hk2 := hk1.next at1_firm hb2
  have hb2 := below_then hb1 hb2
  go_wp2_with fail
  refine (HO.out 5 _).mono ?_
  rintro e w3 ⟨rfl, hb3⟩
  have hk3 := hk2.next at1_firm hb3
  have hb3 := below_then hb2 hb3
  clear hk0 hk1 hk2 hb1 hb2 hbk
  go_wp2_with fail
  refine (conds_any _ _).mono ?_
  rintro e w4 ⟨rfl, hw4⟩
  have hp4 : Cds w4 w4.heap.size (some ⟨w3.heap.size, 0, none⟩) bP := by rw [← hw4]; exact p_lit w3
  have hk4 : Ints w4 w4.heap.size (some ⟨w.heap.size, 0, none⟩) bK := by rw [← hw4]; exact hk3.next at1_firm ((Below.refl _ _).alloc (Nat.le_refl _) _)
  have hb4 : Below w.heap.size w w4 := by rw [← hw4]; exact hb3.alloc hb3.size _
  clear hw4 hk3
  have HA := Lib.hid (fun W (hb : Below w4.heap.size w4 W) a (row : List C.Cl) (hl : row.length = 2) (hx : ∀ x ∈ row, cOk x) (hu : Cls W W.heap.size a row) => show Calls Try.prog 8 #[.slice (some ⟨w3.heap.size, 0, none⟩) 4 4, .slice (some ⟨w.heap.size, 0, none⟩) 2 2, .slice a 2 2] W (IEPost (O.askR bP bK row) W) by
    have h := ask_any (some ⟨w3.heap.size, 0, none⟩) 4 bP (some ⟨w.heap.size, 0, none⟩) 2 bK a 2 row W (by simp [maxLen]) bP_ok (hp4.next at5_firm hb) (by simp [maxLen]) (hk4.next at1_firm hb) (by rw [hl]; simp [maxLen]) hx hu
    rw [hl] at h; exact h)
  have HA1 := Lib.hid (fun W (hb : Below w4.heap.size w4 W) a (hu : Cls W W.heap.size a [⟨1, 6, []⟩, ⟨2, 0, [97]⟩]) => show Calls Try.prog 8 #[.slice (some ⟨w3.heap.size, 0, none⟩) 4 4, .slice (some ⟨w.heap.size, 0, none⟩) 2 2, .slice a 2 2] W (IEPost (2, 0) W) by
    have h := HA.out W hb a _ rfl (by intro x hx; simp only [List.mem_cons, List.not_mem_nil, or_false] at hx; rcases hx with rfl | rfl <;> (unfold cOk; simp [maxLen])) hu
    rw [v1] at h; exact h)
  have HA2 := Lib.hid (fun W (hb : Below w4.heap.size w4 W) a (hu : Cls W W.heap.size a [C.null, ⟨2, 0, [97]⟩]) => show Calls Try.prog 8 #[.slice (some ⟨w3.heap.size, 0, none⟩) 4 4, .slice (some ⟨w.heap.size, 0, none⟩) 2 2, .slice a 2 2] W (IEPost (1, 0) W) by
    have h := HA.out W hb a _ rfl (by intro x hx; simp only [List.mem_cons, List.not_mem_nil, or_false] at hx; rcases hx with rfl | rfl <;> (unfold cOk; simp [maxLen, C.null])) hu
    rw [v2] at h; exact h)
  have HP := Lib.hid (fun W (hb : Below w4.heap.size w4 W) a af (hs : Sts W W.heap.size a bS) (hf : Fls W W.heap.size af bF) => show Calls Try.prog 13 #[.slice (some ⟨w3.heap.size, 0, none⟩) 4 4, .slice (some ⟨w.heap.size, 0, none⟩) 2 2, .slice a 2 2, .slice af 2 2] W (fun e w' => e = .returned (.tuple #[.int .i64 1, .int .i64 0]) ∧ Below W.heap.size W w') by
    have h := prune_any (some ⟨w3.heap.size, 0, none⟩) 4 bP (some ⟨w.heap.size, 0, none⟩) 2 bK a 2 bS af 2 bF W (by simp [maxLen]) bP_ok (hp4.next at5_firm hb) (by simp [maxLen]) (hk4.next at1_firm hb) (by simp [maxLen]) bS_ok hs (by simp [maxLen]) bF_ok hf
    rw [v3] at h; exact h)
  have HA4 := Lib.hid (fun W (hb : Below w4.heap.size w4 W) a (hu : Cls W W.heap.size a [⟨1, 6, []⟩]) => show Calls Try.prog 8 #[.slice (some ⟨w3.heap.size, 0, none⟩) 4 4, .slice (some ⟨w.heap.size, 0, none⟩) 1 2, .slice a 1 1] W (fun e w' => e = .returned (.tuple #[.int .i64 0, .int .i64 3]) ∧ Below W.heap.size W w') by
    have h := ask_any (some ⟨w3.heap.size, 0, none⟩) 4 bP (some ⟨w.heap.size, 0, none⟩) 2 [1] a 1 [⟨1, 6, []⟩] W (by simp [maxLen]) bP_ok (hp4.next at5_firm hb) (by simp [maxLen]) ((hk4.next at1_firm hb).take 1) (by simp [maxLen]) (by intro x hx; rw [List.mem_singleton.1 hx]; unfold cOk; simp [maxLen]) hu
    rw [v4] at h; exact h)
  have HC := Lib.hid (fun W (hb : Below w4.heap.size w4 W) => show Calls Try.prog 11 #[.slice (some ⟨w3.heap.size, 0, none⟩) 2 4, .slice (some ⟨w.heap.size, 0, none⟩) 2 2] W (CErrPost 1 W) by
    have h := pcheck_any (some ⟨w3.heap.size, 0, none⟩) 4 (bP.take 2) (some ⟨w.heap.size, 0, none⟩) 2 bK W (by simp [maxLen]) (fun x hx => bP_ok x (List.mem_of_mem_take hx)) ((hp4.next at5_firm hb).take 2) (by simp [maxLen]) (hk4.next at1_firm hb)
    rw [v5] at h; exact h)
  clear HA hp4 hk4 hb3
  generalize w3.heap.size = pb at *
  have hb40 := Below.refl w4.heap.size w4
  go_wp2_with fail
  refine (HN.out 6 _).mono ?_
  rintro e w5 ⟨rfl, hb5⟩
  go_wp2_with fail
  refine (HT.out _).mono ?_
  rintro e w6 ⟨rfl, hb6⟩
  have hb6 := below_then hb5 hb6
  go_wp2_with fail
  refine (ccells_any _ _).mono ?_
  rintro e w7 ⟨rfl, hw7⟩
  have hc7 : Cls w7 w7.heap.size (some ⟨w6.heap.size, 0, none⟩) [⟨1, 6, []⟩, ⟨2, 0, [97]⟩] := by rw [← hw7]; exact cls_lit w6 [⟨1, 6, []⟩, ⟨2, 0, [97]⟩]
  have hb7 : Below w4.heap.size w4 w7 := by rw [← hw7]; exact hb6.alloc hb6.size _
  clear hw7
  go_wp2_with fail
  refine (HA1.out _ hb7 _ hc7).mono ?_
  rintro e w8 ⟨rfl, hb8⟩
  have hb8 := below_then hb7 hb8
  clear hc7 hb7 hb6 hb5
  go_wp2_with fail
  refine (HT.out _).mono ?_
  rintro e w9 ⟨rfl, hb9⟩
  have hb9 := below_then hb8 hb9
  go_wp2_with fail
  refine (ccells_any _ _).mono ?_
  rintro e w10 ⟨rfl, hw10⟩
  have hc10 : Cls w10 w10.heap.size (some ⟨w9.heap.size, 0, none⟩) [C.null, ⟨2, 0, [97]⟩] := by rw [← hw10]; exact cls_lit w9 [C.null, ⟨2, 0, [97]⟩]
  have hb10 : Below w4.heap.size w4 w10 := by rw [← hw10]; exact hb9.alloc hb9.size _
  clear hw10
  go_wp2_with fail
  refine (HA2.out _ hb10 _ hc10).mono ?_
  rintro e w11 ⟨rfl, hb11⟩
  have hb11 := below_then hb10 hb11
  clear hc10 hb10 hb9 hb8
  go_wp2_with fail
  have hmk := mk_fil
  have hself : Below w11.heap.size w11 w11 := Below.refl _ _
  have HP2 := Lib.hid (fun W (hb : Below w11.heap.size w11 W) a af hs hf => HP.out W (below_then hb11 hb) a af hs hf)
  go_region_held3 (fun W => Below w11.heap.size w11 W)
    (first
      | assumption
      | exact (show Below w11.heap.size w11 _ by assumption).drew
      | exact Below.alloc (by assumption) (Below.size (by assumption)) _
      | exact below_then (by assumption) hb9)
    (first
      | (go_at_call 30; refine (HN.out _ _).mono ?_; rintro e w9 ⟨rfl, hb9⟩; (first | have hF := hF.next at4_firm hb9 | have hF := (f_lit _).next at4_firm hb9 | have hF := (f_litd _).next at4_firm hb9 | skip))
      | (go_at_call 32; refine (HT.out _).mono ?_; rintro e w9 ⟨rfl, hb9⟩; (first | have hF := hF.next at4_firm hb9 | have hF := (f_lit _).next at4_firm hb9 | have hF := (f_litd _).next at4_firm hb9 | skip))
      | (go_at_call 13; refine (HP2.out _ (by assumption) _ _ ?_ ?_).mono ?_; (first | exact s_lit _ | exact s_litd _ | exact s_litf _ | exact s_litfd _ | exact s_lit2 _ | exact s_lit2d _); (first | exact f_lit _ | exact f_litd _ | exact f_lits _ | exact f_litsd _ | exact f_lit2 _ | exact f_lit2d _ | exact hF.next at4_firm ((Below.refl _ _).alloc (Nat.le_refl _) _) | exact hF.next at4_firm ((Below.refl _ _).alloc (Nat.le_refl _) _).drew); rintro e w9 ⟨rfl, hb9⟩))
  all_goals
    clear HP HP2 hmk
    rename World => Wo
    have hbo : Below w11.heap.size w11 Wo := by assumption
    have hbo4 := below_then hb11 hbo
    have HA5 := Lib.hid (fun W (hb : Below Wo.heap.size Wo W) a hu => HA4.out W (below_then hbo4 hb) a hu)
    have HC5 := Lib.hid (fun W (hb : Below Wo.heap.size Wo W) => HC.out W (below_then hbo4 hb))
    have hbo0 := below_then hb4 hbo4
    clear HA4 HC hbo4 hb11 hbo hb4 hself hb40
    go_wp2_with fail
    have hself2 : Below Wo.heap.size Wo Wo := Below.refl _ _
    go_region_held3 (fun W => Below Wo.heap.size Wo W)
      (first
        | assumption
        | exact (show Below Wo.heap.size Wo _ by assumption).drew
        | exact Below.alloc (by assumption) (Below.size (by assumption)) _
        | exact below_then (by assumption) hb9)
      (first
        | (go_at_call 30; refine (HN.out _ _).mono ?_; rintro e w9 ⟨rfl, hb9⟩)
        | (go_at_call 31; refine (ccells_any _ _).mono ?_; rintro e w9 ⟨rfl, rfl⟩)
        | (go_at_call 8; refine (HA5.out _ (by assumption) _ ?_).mono ?_; (first | exact c6_lit _ | exact c6_litd _); rintro e w9 ⟨rfl, hb9⟩))
    all_goals
      rename World => Wp
      have hbp : Below Wo.heap.size Wo Wp := by assumption
      go_wp2_with fail
      refine (HC5.out _ hbp).mono ?_
      rintro e w12 ⟨rfl, hb12⟩
      go_wp2_with fail
      go_ret
      exact ⟨rfl, below_then hbo0 (below_then hbp hb12)⟩
end Go.Proofs.Ytecfknolpnjokaa
