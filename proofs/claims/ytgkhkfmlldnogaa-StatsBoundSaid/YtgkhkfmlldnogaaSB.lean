/- The walk of statsBegun. -/
import Derived.Test.YtgkhkfmlldnogaaCNum
import Derived.Test.YtgkhkfmlldnogaaSW2
import Derived.Test.YtgkhkfmlldnogaaSW4
import Derived.Test.YtgkhkfmlldnogaaSEq
import Derived.Test.YtgkhkfmlldnogaaWB
import Derived.Deep.DeepCutAuto
namespace Go.Proofs.Ytgkhkfmlldnogaa
open Go.RowKit
set_option linter.unusedVariables false

abbrev sL0 : List C.Cl := [⟨1, 7, []⟩, C.null, ⟨1, 3, []⟩]
abbrev sA0 : S.St := ⟨3, 1, ⟨1, 3, []⟩, ⟨1, 7, []⟩⟩
abbrev sB0 : S.St := ⟨2, 1, ⟨1, 9, []⟩, ⟨1, 9, []⟩⟩
abbrev sC0 : S.St := ⟨5, 2, ⟨1, 3, []⟩, ⟨1, 9, []⟩⟩
abbrev sD0 : S.St := ⟨1, 0, C.null, C.null⟩
theorem scok (n : Nat) (h : n < 10) : cOk ⟨1, n, []⟩ := by unfold cOk; simp [maxLen]; omega
theorem sokL0 : ∀ x ∈ sL0, cOk x := by
  intro x hx
  simp only [List.mem_cons, List.not_mem_nil, or_false] at hx
  rcases hx with rfl | rfl | rfl
  · exact scok 7 (by omega)
  · exact cOk_null
  · exact scok 3 (by omega)
theorem sbof (a : Option Addr) (w : World) (hu : Cls w w.heap.size a sL0) :
    Calls Try.prog 8 #[.int .i64 1, .slice a 3 3] w (fun e w' => e = .returned (.tuple #[.agg #[.int .i64 3, .int .i64 1, .int .i64 1, .int .u64 3, .string ⟨#[]⟩, .int .i64 1, .int .u64 7, .string ⟨#[]⟩], .int .i64 0]) ∧ Below w.heap.size w w') := by
  have h := sof_any 1 a 3 sL0 w (by unfold maxLen; decide) sokL0 hu
  have e : ofR 1 sL0 = (sA0, 0) := by decide +kernel
  rw [e] at h; exact h
theorem sbmerge (w : World) :
    Calls Try.prog 14 #[.int .i64 1, .agg #[.int .i64 3, .int .i64 1, .int .i64 1, .int .u64 3, .string ⟨#[]⟩, .int .i64 1, .int .u64 7, .string ⟨#[]⟩], .agg #[.int .i64 2, .int .i64 1, .int .i64 1, .int .u64 9, .string ⟨#[]⟩, .int .i64 1, .int .u64 9, .string ⟨#[]⟩]] w (fun e w' => e = .returned (.tuple #[.agg #[.int .i64 5, .int .i64 2, .int .i64 1, .int .u64 3, .string ⟨#[]⟩, .int .i64 1, .int .u64 9, .string ⟨#[]⟩], .int .i64 0]) ∧ Below w.heap.size w w') := by
  have h := smerge_any 1 sA0 sB0 w ⟨by decide, by decide, scok 3 (by omega), scok 7 (by omega)⟩ ⟨by decide, by decide, scok 9 (by omega), scok 9 (by omega)⟩
  have e : S.mg 1 sA0 sB0 = (sC0, 0) := by decide +kernel
  rw [e] at h; exact h
theorem sbchk1 (w : World) : Calls Try.prog 12 #[.int .i64 1, .agg #[.int .i64 1, .int .i64 0, .int .i64 0, .int .u64 0, .string ⟨#[]⟩, .int .i64 0, .int .u64 0, .string ⟨#[]⟩]] w (fun e w' => e = .returned (.int .i64 4) ∧ Below w.heap.size w w') := by
  have h := scheck_any 1 sD0 w ⟨by decide, by decide, cOk_null, cOk_null⟩
  have e : S.ck 1 sD0 = 4 := by decide +kernel
  rw [e] at h; exact h
theorem sbchk2 (w : World) : Calls Try.prog 12 #[.int .i64 2, .agg #[.int .i64 0, .int .i64 0, .int .i64 0, .int .u64 0, .string ⟨#[]⟩, .int .i64 0, .int .u64 0, .string ⟨#[]⟩]] w (fun e w' => e = .returned (.int .i64 0) ∧ Below w.heap.size w w') := by
  have h := scheck_any 2 S.zero w ⟨by decide, by decide, cOk_null, cOk_null⟩
  have e : S.ck 2 S.zero = 0 := by decide +kernel
  rw [e] at h; exact h
/-- eight cells, and what is old as it was -/
def K8 (w : World) (G : Nat) (v0 v1 v2 v3 v4 v5 v6 v7 : Value) (W : World) : Prop := (W.cell? ⟨G, 0, none⟩ = some v0 ∧ W.cell? ⟨G, 1, none⟩ = some v1 ∧ W.cell? ⟨G, 2, none⟩ = some v2 ∧ W.cell? ⟨G, 3, none⟩ = some v3 ∧ W.cell? ⟨G, 4, none⟩ = some v4 ∧ W.cell? ⟨G, 5, none⟩ = some v5 ∧ W.cell? ⟨G, 6, none⟩ = some v6 ∧ W.cell? ⟨G, 7, none⟩ = some v7) ∧ Below w.heap.size w W
theorem sb_at_lt {W : World} {A o : Nat} {v : Value} (h : W.cell? ⟨A, o, none⟩ = some v) : A < W.heap.size := by
  rcases Nat.lt_or_ge A W.heap.size with hlt | hge
  · exact hlt
  · simp [World.cell?, Array.getElem?_eq_none hge] at h
theorem K8.next {w : World} {G : Nat} {v0 v1 v2 v3 v4 v5 v6 v7 : Value} {W W' : World} (h : K8 w G v0 v1 v2 v3 v4 v5 v6 v7 W) (hb : Below W.heap.size W W') : K8 w G v0 v1 v2 v3 v4 v5 v6 v7 W' := by
  obtain ⟨⟨a0, a1, a2, a3, a4, a5, a6, a7⟩, hw⟩ := h
  have hlt := sb_at_lt a0
  exact ⟨⟨(hb.cell (p := ⟨G, 0, none⟩) hlt).trans a0, (hb.cell (p := ⟨G, 1, none⟩) hlt).trans a1, (hb.cell (p := ⟨G, 2, none⟩) hlt).trans a2, (hb.cell (p := ⟨G, 3, none⟩) hlt).trans a3, (hb.cell (p := ⟨G, 4, none⟩) hlt).trans a4, (hb.cell (p := ⟨G, 5, none⟩) hlt).trans a5, (hb.cell (p := ⟨G, 6, none⟩) hlt).trans a6, (hb.cell (p := ⟨G, 7, none⟩) hlt).trans a7⟩, below_then hw hb⟩
theorem K8.drew {w : World} {G : Nat} {v0 v1 v2 v3 v4 v5 v6 v7 : Value} {W : World} (h : K8 w G v0 v1 v2 v3 v4 v5 v6 v7 W) : K8 w G v0 v1 v2 v3 v4 v5 v6 v7 W.drew := h.next (Below.refl _ _).drew

theorem octN {w w9 : World} (hb : Below (w.alloc (.cells #[.int .i64 0, .int .i64 0, .int .i64 0, .int .u64 0, .string ByteArray.empty, .int .i64 0, .int .u64 0, .string ByteArray.empty] 27)).heap.size (w.alloc (.cells #[.int .i64 0, .int .i64 0, .int .i64 0, .int .u64 0, .string ByteArray.empty, .int .i64 0, .int .u64 0, .string ByteArray.empty] 27)) w9) : Oct w9 w.heap.size [.int .i64 0, .int .i64 0, .int .i64 0, .int .u64 0, .string ByteArray.empty, .int .i64 0, .int .u64 0, .string ByteArray.empty] := (oct_new w [.int .i64 0, .int .i64 0, .int .i64 0, .int .u64 0, .string ByteArray.empty, .int .i64 0, .int .u64 0, .string ByteArray.empty]).next hb

theorem octFar8 {w : World} {G b : Nat} {vs : List Value} (h : Oct w G vs) (hne : ¬ b = G) (n0 n1 n2 n3 n4 n5 n6 n7 : Value) : Oct ((((((((w.setCell ⟨b, 0, none⟩ n0).setCell ⟨b, 1, none⟩ n1).setCell ⟨b, 2, none⟩ n2).setCell ⟨b, 3, none⟩ n3).setCell ⟨b, 4, none⟩ n4).setCell ⟨b, 5, none⟩ n5).setCell ⟨b, 6, none⟩ n6).setCell ⟨b, 7, none⟩ n7) G vs :=
  (((((((h.far b 0 n0 hne).far b 1 n1 hne).far b 2 n2 hne).far b 3 n3 hne).far b 4 n4 hne).far b 5 n5 hne).far b 6 n6 hne).far b 7 n7 hne

theorem octNd {w w9 : World} (hb : Below (w.alloc (.cells #[.int .i64 0, .int .i64 0, .int .i64 0, .int .u64 0, .string ByteArray.empty, .int .i64 0, .int .u64 0, .string ByteArray.empty] 27)).drew.heap.size (w.alloc (.cells #[.int .i64 0, .int .i64 0, .int .i64 0, .int .u64 0, .string ByteArray.empty, .int .i64 0, .int .u64 0, .string ByteArray.empty] 27)).drew w9) : Oct w9 w.heap.size [.int .i64 0, .int .i64 0, .int .i64 0, .int .u64 0, .string ByteArray.empty, .int .i64 0, .int .u64 0, .string ByteArray.empty] := Oct.next (w := (w.alloc (.cells #[.int .i64 0, .int .i64 0, .int .i64 0, .int .u64 0, .string ByteArray.empty, .int .i64 0, .int .u64 0, .string ByteArray.empty] 27)).drew) (oct_new w [.int .i64 0, .int .i64 0, .int .i64 0, .int .u64 0, .string ByteArray.empty, .int .i64 0, .int .u64 0, .string ByteArray.empty]) hb

theorem nOf {w : World} {b G : Nat} (h : Oct w b [.int .i64 0, .int .i64 0, .int .i64 0, .int .u64 0, .string ByteArray.empty, .int .i64 0, .int .u64 0, .string ByteArray.empty]) (k : Oct w G [.int .i64 3, .int .i64 1, .int .i64 1, .int .u64 3, .string ⟨#[]⟩, .int .i64 1, .int .u64 7, .string ⟨#[]⟩]) : ¬ b = G := by
  rintro rfl
  have e := (h.cell 0).symm.trans (k.cell 0)
  simp at e

set_option maxHeartbeats 4000000 in
set_option maxRecDepth 100000 in
theorem sbegun_any (w : World) : Calls Try.prog 11 #[] w (BoolPost true w) := by
  go_enter Try.func11, Try.ntmps11
  go_wp2_with fail
  refine (cnum_any 7 _).mono ?_
  rintro e w1 ⟨rfl, hb1⟩
  go_wp2_with fail
  refine (cnum_any 3 _).mono ?_
  rintro e w2 ⟨rfl, hb2⟩
  have h2 := below_then hb1 hb2
  go_wp2_with fail
  refine (ccells_any _ _).mono ?_
  rintro e w3 ⟨rfl, rfl⟩
  have hl : Cls (w2.alloc (.cells #[.int .i64 1, .int .u64 7, .string ⟨#[]⟩, .int .i64 0, .int .u64 0, .string ⟨#[]⟩, .int .i64 1, .int .u64 3, .string ⟨#[]⟩] 25)) (w2.alloc (.cells #[.int .i64 1, .int .u64 7, .string ⟨#[]⟩, .int .i64 0, .int .u64 0, .string ⟨#[]⟩, .int .i64 1, .int .u64 3, .string ⟨#[]⟩] 25)).heap.size (some ⟨w2.heap.size, 0, none⟩) sL0 := cls_lit w2 sL0
  have h3 := h2.alloc h2.size (.cells #[.int .i64 1, .int .u64 7, .string ⟨#[]⟩, .int .i64 0, .int .u64 0, .string ⟨#[]⟩, .int .i64 1, .int .u64 3, .string ⟨#[]⟩] 25)
  generalize w2.alloc (.cells #[.int .i64 1, .int .u64 7, .string ⟨#[]⟩, .int .i64 0, .int .u64 0, .string ⟨#[]⟩, .int .i64 1, .int .u64 3, .string ⟨#[]⟩] 25) = W3 at *
  generalize w2.heap.size = lb at *
  clear hb1 hb2 h2
  go_wp2_with fail
  refine (sbof _ _ hl).mono ?_
  rintro e w4 ⟨rfl, hb4⟩
  have h4 := below_then h3 hb4
  clear hl h3 hb4
  have hG := oct_new w4 [.int .i64 3, .int .i64 1, .int .i64 1, .int .u64 3, .string ⟨#[]⟩, .int .i64 1, .int .u64 7, .string ⟨#[]⟩]
  have h5 := h4.alloc h4.size (.cells #[.int .i64 3, .int .i64 1, .int .i64 1, .int .u64 3, .string ⟨#[]⟩, .int .i64 1, .int .u64 7, .string ⟨#[]⟩] 27)
  have HG := Lib.hid (show ∀ W, W = w4.alloc (.cells #[.int .i64 3, .int .i64 1, .int .i64 1, .int .u64 3, .string ⟨#[]⟩, .int .i64 1, .int .u64 7, .string ⟨#[]⟩] 27) → Oct W w4.heap.size [.int .i64 3, .int .i64 1, .int .i64 1, .int .u64 3, .string ⟨#[]⟩, .int .i64 1, .int .u64 7, .string ⟨#[]⟩] ∧ Below w.heap.size w W by rintro W rfl; exact ⟨hG, h5⟩)
  clear hG h4 h5
  go_upto_region 2 with fail
  obtain ⟨W5, hW5⟩ : ∃ W5, W5 = w4.alloc (.cells #[.int .i64 3, .int .i64 1, .int .i64 1, .int .u64 3, .string ⟨#[]⟩, .int .i64 1, .int .u64 7, .string ⟨#[]⟩] 27) := ⟨_, rfl⟩
  obtain ⟨hG, h5⟩ := HG.out W5 hW5
  rw [← hW5]
  clear HG hW5
  generalize w4.heap.size = G at *
  go_cut [3, 4] (fun p e wx => ∃ g, p = .pointer (some ⟨g, 0, none⟩) ∧ e = .int .i64 0 ∧ Oct wx g [.int .i64 5, .int .i64 2, .int .i64 1, .int .u64 3, .string ⟨#[]⟩, .int .i64 1, .int .u64 9, .string ⟨#[]⟩] ∧ Oct wx G [.int .i64 3, .int .i64 1, .int .i64 1, .int .u64 3, .string ⟨#[]⟩, .int .i64 1, .int .u64 7, .string ⟨#[]⟩] ∧ Below W5.heap.size W5 wx)
  case first =>
    obtain ⟨x0, x1, x2, x3, x4, x5, x6, x7⟩ := hG.cells
    have hself : Below W5.heap.size W5 W5 := Below.refl _ _
    have hGl := hG.lt
    have q1 : ¬ G = W5.heap.size := by omega
    have q2 : ¬ W5.heap.size = G := by omega
    go_region_held3 (fun W => W.cell? ⟨G, 0, none⟩ = some (.int .i64 3) ∧ W.cell? ⟨G, 1, none⟩ = some (.int .i64 1) ∧ W.cell? ⟨G, 2, none⟩ = some (.int .i64 1) ∧ W.cell? ⟨G, 3, none⟩ = some (.int .u64 3) ∧ W.cell? ⟨G, 4, none⟩ = some (.string ⟨#[]⟩) ∧ W.cell? ⟨G, 5, none⟩ = some (.int .i64 1) ∧ W.cell? ⟨G, 6, none⟩ = some (.int .u64 7) ∧ W.cell? ⟨G, 7, none⟩ = some (.string ⟨#[]⟩))
      (with_reducible first | exact Y | exact ⟨x0, x1, x2, x3, x4, x5, x6, x7⟩ | exact Oct.cells (hG9.next ((Below.refl _ _).alloc (Nat.le_refl _) _)) | exact Oct.cells (hG.next ((Below.refl _ _).alloc (Nat.le_refl _) _)) | exact Oct.cells (hG.next (Below.refl _ _).drew) | exact Oct.cells (hG.next ((Below.refl _ _).alloc (Nat.le_refl _) _).drew) | exact Oct.cells (hG9.next ((Below.refl _ _).alloc (Nat.le_refl _) _).drew))
      (first
      | (go_at_call 24; refine (cnum_any _ _).mono ?_; rintro e w9 ⟨rfl, hb9⟩; have h9 : Below W5.heap.size W5 w9 := (by with_reducible first | exact below_then h9 hb9 | exact below_then h9.drew hb9 | exact below_then (h9.alloc h9.size _) hb9 | exact below_then (h9.alloc h9.size _).drew hb9 | exact below_then hself hb9 | exact below_then hself.drew hb9 | exact below_then (hself.drew.alloc hself.drew.size _) hb9 | exact below_then (hself.alloc hself.size _) hb9 | exact below_then (hself.alloc hself.size _).drew hb9); obtain ⟨x0, x1, x2, x3, x4, x5, x6, x7⟩ := (hG.next h9).cells; have q1 : ¬ G = w9.heap.size := (by have := h9.size; omega); have q2 : ¬ w9.heap.size = G := (by have := h9.size; omega); have hs9 := h9.size; have hG9 := hG.next h9; (with_reducible first | have hN := octN hb9 | have hN := octNd hb9 | have hN := hN.next hb9 | skip))
      | (go_at_call 14; refine (sbmerge _).mono ?_; rintro e w9 ⟨rfl, hb9⟩; have h9 : Below W5.heap.size W5 w9 := (by with_reducible first | exact below_then h9 hb9 | exact below_then h9.drew hb9 | exact below_then (h9.alloc h9.size _) hb9 | exact below_then (h9.alloc h9.size _).drew hb9 | exact below_then hself hb9 | exact below_then hself.drew hb9 | exact below_then (hself.drew.alloc hself.drew.size _) hb9 | exact below_then (hself.alloc hself.size _) hb9 | exact below_then (hself.alloc hself.size _).drew hb9); obtain ⟨x0, x1, x2, x3, x4, x5, x6, x7⟩ := (hG.next h9).cells; have q1 : ¬ G = w9.heap.size := (by have := h9.size; omega); have q2 : ¬ w9.heap.size = G := (by have := h9.size; omega); have hs9 := h9.size; have hG9 := hG.next h9; (with_reducible first | have hN := octN hb9 | have hN := octNd hb9 | have hN := hN.next hb9 | skip); (with_reducible first | (obtain ⟨⟨n0, n1, n2, n3, n4, n5, n6, n7⟩, ⟨m0, m1, m2, m3, m4, m5, m6, m7⟩, _, hN8⟩ := hN.store (.int .i64 5) (.int .i64 2) (.int .i64 1) (.int .u64 3) (.string ⟨#[]⟩) (.int .i64 1) (.int .u64 9) (.string ⟨#[]⟩); have hGf := octFar8 hG9 (nOf hN hG9) (.int .i64 5) (.int .i64 2) (.int .i64 1) (.int .u64 3) (.string ⟨#[]⟩) (.int .i64 1) (.int .u64 9) (.string ⟨#[]⟩); have Y := hGf.cells) | skip)))
    all_goals
      go_wp2_with fail
      go_meet
    case rel =>
      exact ⟨_, rfl, rfl, oct_new _ _, hG9.next ((Below.refl _ _).alloc (Nat.le_refl _) _), h9.alloc h9.size _⟩
    all_goals
      exact ⟨_, rfl, rfl, hN8, hGf, Oct.below h9 (by first | omega | exact Nat.le_refl _) _ _ _ _ _ _ _ _⟩
  case rest =>
    obtain ⟨g, rfl, rfl, hg, hGc, hb⟩ := hcut
    obtain ⟨y0, y1, y2, y3, y4, y5, y6, y7⟩ := hGc.cells
    obtain ⟨z0, z1, z2, z3, z4, z5, z6, z7⟩ := hg.cells
    have hlt : G < wc.heap.size ∧ g < wc.heap.size := ⟨hGc.lt, hg.lt⟩
    have hbw := below_then h5 hb
    clear hG hg hGc h5 hb
    have hE1 : ∀ w, (binOp .eql 27 (.agg #[.int .i64 3, .int .i64 1, .int .i64 1, .int .u64 3, .string ⟨#[]⟩, .int .i64 1, .int .u64 7, .string ⟨#[]⟩]) (.agg #[.int .i64 3, .int .i64 1, .int .i64 1, .int .u64 3, .string ⟨#[]⟩, .int .i64 1, .int .u64 7, .string ⟨#[]⟩])).run Try.prog w = .ok (.bool true) w := fun w => by
      have h := stats_eql_stats w sA0 sA0
      rw [decide_eq_true rfl] at h
      exact h
    have hE2 : ∀ w, (binOp .eql 27 (.agg #[.int .i64 5, .int .i64 2, .int .i64 1, .int .u64 3, .string ⟨#[]⟩, .int .i64 1, .int .u64 9, .string ⟨#[]⟩]) (.agg #[.int .i64 5, .int .i64 2, .int .i64 1, .int .u64 3, .string ⟨#[]⟩, .int .i64 1, .int .u64 9, .string ⟨#[]⟩])).run Try.prog w = .ok (.bool true) w := fun w => by
      have h := stats_eql_stats w sC0 sC0
      rw [decide_eq_true rfl] at h
      exact h
    have hgd := guards_stats .eql
    have f0 : ∀ p : WB wc, p.w.cell? ⟨G, 0, none⟩ = some (.int .i64 3) := fun p => p.cell hlt.1 y0
    have f1 : ∀ p : WB wc, p.w.cell? ⟨G, 1, none⟩ = some (.int .i64 1) := fun p => p.cell hlt.1 y1
    have f2 : ∀ p : WB wc, p.w.cell? ⟨G, 2, none⟩ = some (.int .i64 1) := fun p => p.cell hlt.1 y2
    have f3 : ∀ p : WB wc, p.w.cell? ⟨G, 3, none⟩ = some (.int .u64 3) := fun p => p.cell hlt.1 y3
    have f4 : ∀ p : WB wc, p.w.cell? ⟨G, 4, none⟩ = some (.string ⟨#[]⟩) := fun p => p.cell hlt.1 y4
    have f5 : ∀ p : WB wc, p.w.cell? ⟨G, 5, none⟩ = some (.int .i64 1) := fun p => p.cell hlt.1 y5
    have f6 : ∀ p : WB wc, p.w.cell? ⟨G, 6, none⟩ = some (.int .u64 7) := fun p => p.cell hlt.1 y6
    have f7 : ∀ p : WB wc, p.w.cell? ⟨G, 7, none⟩ = some (.string ⟨#[]⟩) := fun p => p.cell hlt.1 y7
    have f8 : ∀ p : WB wc, p.w.cell? ⟨g, 0, none⟩ = some (.int .i64 5) := fun p => p.cell hlt.2 z0
    have f9 : ∀ p : WB wc, p.w.cell? ⟨g, 1, none⟩ = some (.int .i64 2) := fun p => p.cell hlt.2 z1
    have f10 : ∀ p : WB wc, p.w.cell? ⟨g, 2, none⟩ = some (.int .i64 1) := fun p => p.cell hlt.2 z2
    have f11 : ∀ p : WB wc, p.w.cell? ⟨g, 3, none⟩ = some (.int .u64 3) := fun p => p.cell hlt.2 z3
    have f12 : ∀ p : WB wc, p.w.cell? ⟨g, 4, none⟩ = some (.string ⟨#[]⟩) := fun p => p.cell hlt.2 z4
    have f13 : ∀ p : WB wc, p.w.cell? ⟨g, 5, none⟩ = some (.int .i64 1) := fun p => p.cell hlt.2 z5
    have f14 : ∀ p : WB wc, p.w.cell? ⟨g, 6, none⟩ = some (.int .u64 9) := fun p => p.cell hlt.2 z6
    have f15 : ∀ p : WB wc, p.w.cell? ⟨g, 7, none⟩ = some (.string ⟨#[]⟩) := fun p => p.cell hlt.2 z7
    clear y0 y1 y2 y3 y4 y5 y6 y7 z0 z1 z2 z3 z4 z5 z6 z7
    go_wp2_with fail
    refine wp_region_wbh (by kernel_rfl) (by kernel_rfl) ?_
    iterate 24 (refine wq_step (fun K hK => ?_); go_simp; first | (refine hK _ ?_; clear hK K) | (apply Exists.intro; refine ⟨fun _ => ?_, hK _ ?_⟩; (first | (go_at_call 24; exact calls_wb (cnum_any _ _)) | (go_at_call 12; exact calls_wb (sbchk1 _))); clear hK K))
    iterate 7 (refine wq_step (fun K hK => ?_); go_simp; first | (refine hK _ ?_; clear hK K) | (apply Exists.intro; refine ⟨fun _ => ?_, hK _ ?_⟩; (first | (go_at_call 24; exact calls_wb (cnum_any _ _)) | (go_at_call 12; exact calls_wb (sbchk2 _))); clear hK K))
    refine wq_nil ?_
    rintro _ ⟨p, rfl⟩
    have hp := p.below
    go_wp2_with fail
    go_ret
    exact ⟨rfl, below_then hbw hp⟩
end Go.Proofs.Ytgkhkfmlldnogaa
