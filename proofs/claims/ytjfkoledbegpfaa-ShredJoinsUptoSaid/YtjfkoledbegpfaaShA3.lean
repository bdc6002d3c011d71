/- The walks of the assembler's often, level. -/
import Derived.Test.YtjfkoledbegpfaaShA2
import Derived.Test.YtjfkoledbegpfaaShLEq
namespace Go.Proofs.Ytjfkoledbegpfaa
open Go.RowKit
open Sh (Lv)
set_option linter.unusedVariables false

def AOftenPost (w : World) (B S C N cN : Nat) (R : Option (Nat × Sh.As)) (rv : Value) (e : Ending) (w' : World) : Prop :=
  ∃ rv', Fr S C w w' [rv] [rv'] ∧ match R with
    | none => e = gaveUp 1
    | some x => e = .returned (.int .u64 (x.1 : Nat)) ∧ x.1 < 18446744073709551616 ∧ ∃ vs', Asd w' B S C N cN x.2.1 vs' x.2.2 rv'
def AsPost (w : World) (B S C N cN : Nat) (R : Option Sh.As) (rv : Value) (e : Ending) (w' : World) : Prop :=
  ∃ rv', Fr S C w w' [rv] [rv'] ∧ match R with
    | none => e = gaveUp 1
    | some st => e = .returned (.tuple #[]) ∧ ∃ vs', Asd w' B S C N cN st.1 vs' st.2 rv'
theorem seen_lt {w : World} {B S C N cN : Nat} {lefts : List (List Lv)} {vs : List Value} {rec : List Nat} {rv : Value} (h : Asd w B S C N cN lefts vs rec rv) {r D P c m : Nat} (hc : c < N) (hm : Sh.asSeen lefts r D P c = some m) : m < 18446744073709551616 := by
  obtain ⟨a, cap, hv, hlv, hl1, hl2, hlo⟩ := h.lv c hc
  unfold maxLen at hl2
  cases hl : lefts.getD c [] with
  | nil => rw [seen_nil hl] at hm; cases hm
  | cons x t =>
    rw [seen_cons hl] at hm
    rw [hl] at hl1
    simp only [List.length_cons] at hl1
    have := Sh.again_le (P : Int) t
    split at hm
    · cases hm; omega
    · split at hm
      · cases hm; omega
      · cases hm; omega

set_option maxHeartbeats 2000000 in
set_option maxRecDepth 100000 in
theorem aoften_any (w : World) (B S C N cN : Nat) (lefts : List (List Lv)) (vs : List Value) (rec : List Nat) (rv : Value) (h : Asd w B S C N cN lefts vs rec rv) (r D P c T : Nat) (hr : r ≤ 2) (hc : c < N) (kv : Value) (o5 : kv.oneCell' = true) :
    Calls Try.prog 67 #[.pointer (some ⟨S, 0, none⟩), .agg #[.int .i64 (r : Nat), .int .i64 (D : Nat), .int .i64 (P : Nat), .int .i64 (c : Nat), .int .i64 (T : Nat), kv]] w (AOftenPost w B S C N cN (Sh.asOften (lefts, rec) r D P c) rv) := by
  have HS := Lib.hid h
  obtain ⟨R, hR⟩ : ∃ R, Sh.asOften (lefts, rec) r D P c = R := ⟨_, rfl⟩
  rw [hR]
  have HR := Lib.hid hR
  clear h hR
  go_enter Try.func67, Try.ntmps67
  go_wp2_with fail
  have H1 := HS.out.next ((Below.refl _ _).alloc (Nat.le_refl _) (.cells #[.int .i64 (r : Nat), .int .i64 (D : Nat), .int .i64 (P : Nat), .int .i64 (c : Nat), .int .i64 (T : Nat), kv] 50))
  have R1 := (Fr.refl S C w [rv]).alloc (.cells #[.int .i64 (r : Nat), .int .i64 (D : Nat), .int .i64 (P : Nat), .int .i64 (c : Nat), .int .i64 (T : Nat), kv] 50)
  generalize w.alloc (.cells #[.int .i64 (r : Nat), .int .i64 (D : Nat), .int .i64 (P : Nat), .int .i64 (c : Nat), .int .i64 (T : Nat), kv] 50) = w1 at *
  refine (seen_any w1 B S C N cN lefts vs rec rv H1 r D P c T hr hc kv o5).mono ?_
  rintro e w2 ⟨hb2, hp⟩
  obtain ⟨Q, hQ⟩ : ∃ Q, Sh.asSeen lefts r D P c = Q := ⟨_, rfl⟩
  rw [hQ] at hp
  have HQ := Lib.hid hQ
  cases Q with
  | none =>
    obtain rfl := hp
    obtain rfl : R = none := by rw [← HR.out]; unfold Sh.asOften; rw [HQ.out]; rfl
    refine And.intro rfl ?_
    exact (⟨rv, R1.trans (Fr.of_below hb2), rfl⟩ : AOftenPost w B S C N cN none rv (gaveUp 1) w2)
  | some m =>
    obtain rfl := hp
    have hm64 := seen_lt HS.out hc HQ.out
    have H2 := Lib.hid (H1.next hb2)
    have R2 := Lib.hid (R1.trans (Fr.of_below hb2))
    clear H1 R1 hb2 hQ
    go_wp2_with fail
    refine (put_any w2 B S C N cN lefts vs rec rv H2.out m).mono ?_
    rintro e w3 ⟨rv', hfr, hp⟩
    obtain ⟨U, hU⟩ : ∃ U, Sh.asPut rec m = U := ⟨_, rfl⟩
    rw [hU] at hp
    have HU := Lib.hid hU
    cases U with
    | none =>
      obtain rfl := hp
      obtain rfl : R = none := by rw [← HR.out]; unfold Sh.asOften; rw [HQ.out]; show (Sh.asPut rec m).map _ = _; rw [HU.out]; rfl
      refine And.intro rfl ?_
      exact (⟨rv', R2.out.trans hfr, rfl⟩ : AOftenPost w B S C N cN none rv (gaveUp 1) w3)
    | some rec' =>
      obtain ⟨rfl, hsd⟩ := hp
      have HRR := Lib.hid (show R = some (m, (lefts, rec')) by rw [← HR.out]; unfold Sh.asOften; rw [HQ.out]; show (Sh.asPut rec m).map _ = _; rw [HU.out]; rfl)
      have HF := Lib.hid (R2.out.trans hfr)
      have HD := Lib.hid hsd
      clear hfr hsd hU
      go_wp2_with fail
      go_ret
      obtain rfl := HRR.out
      exact ⟨rv', HF.out, rfl, hm64, vs, HD.out⟩

set_option maxHeartbeats 4000000 in
set_option maxRecDepth 100000 in
theorem alevel_any (w : World) (B S C N cN : Nat) (lefts : List (List Lv)) (vs : List Value) (rec : List Nat) (rv : Value) (h : Asd w B S C N cN lefts vs rec rv) (c rep d : Nat) (hc : c < N) (there : Bool) :
    Calls Try.prog 66 #[.pointer (some ⟨S, 0, none⟩), .int .i64 (c : Nat), .agg #[.int .i64 (rep : Nat), .int .i64 (d : Nat), .int .u64 0], .bool there] w (AsPost w B S C N cN (Sh.asLevel (lefts, rec) c rep d there) rv) := by
  have HS := Lib.hid h
  obtain ⟨R, hR⟩ : ∃ R, Sh.asLevel (lefts, rec) c rep d there = R := ⟨_, rfl⟩
  rw [hR]
  have HR := Lib.hid hR
  clear h hR
  go_enter Try.func66, Try.ntmps66
  go_wp2_with fail
  have L1 := cel_new w #[.int .i64 (rep : Nat), .int .i64 (d : Nat), .int .u64 0] 43
  have H1 := HS.out.next ((Below.refl _ _).alloc (Nat.le_refl _) (.cells #[.int .i64 (rep : Nat), .int .i64 (d : Nat), .int .u64 0] 43))
  have R1 := (Fr.refl S C w [rv]).alloc (.cells #[.int .i64 (rep : Nat), .int .i64 (d : Nat), .int .u64 0] 43)
  have S1 : (w.alloc (.cells #[.int .i64 (rep : Nat), .int .i64 (d : Nat), .int .u64 0] 43)).heap.size = w.heap.size + 1 := by simp
  generalize w.alloc (.cells #[.int .i64 (rep : Nat), .int .i64 (d : Nat), .int .u64 0] 43) = w1 at *
  refine (asnext_any w1 B S C N cN lefts vs rec rv H1 c hc).mono ?_
  rintro e w2 ⟨hb2, hp⟩
  obtain ⟨l, hl⟩ : ∃ l, lefts.getD c [] = l := ⟨_, rfl⟩
  rw [hl] at hp
  have HLL := Lib.hid hl
  cases l with
  | nil =>
    obtain rfl := hp
    obtain rfl : R = none := by
      rw [← HR.out]
      show (match lefts.getD c [] with | [] => none | l :: t => _) = _
      rw [HLL.out]
    refine And.intro rfl ?_
    exact (⟨rv, R1.trans (Fr.of_below hb2), rfl⟩ : AsPost w B S C N cN none rv (gaveUp 1) w2)
  | cons x t =>
    obtain rfl := hp
    have H2 := H1.next hb2
    have L2 := L1.next hb2
    have R2 := R1.trans (Fr.of_below hb2)
    have hs2 := hb2.size
    obtain ⟨X0, hX0⟩ : ∃ X0, x.1 = X0 := ⟨_, rfl⟩
    obtain ⟨X1, hX1⟩ : ∃ X1, x.2.1 = X1 := ⟨_, rfl⟩
    obtain ⟨X2, hX2⟩ : ∃ X2, x.2.2 = X2 := ⟨_, rfl⟩
    rw [hX0, hX1, hX2]
    have HX := Lib.hid (show x = (X0, X1, X2) by rw [← hX0, ← hX1, ← hX2])
    have n1 : ¬ w.heap.size = w2.heap.size := by omega
    have l0 : w2.cell? ⟨w.heap.size, 0, none⟩ = some (.int .i64 (rep : Nat)) := L2.c 0
    have l1 : w2.cell? ⟨w.heap.size, 1, none⟩ = some (.int .i64 (d : Nat)) := L2.c 1
    have l2 : w2.cell? ⟨w.heap.size, 2, none⟩ = some (.int .u64 0) := L2.c 2
    have lz := L2.free 2
    have hFl : w.heap.size < w2.heap.size := by omega
    have hgl := guards_level .neq
    have H3 := H2.next ((Below.refl _ _).alloc (Nat.le_refl _) (.cells #[.int .i64 X0, .int .i64 X1, .int .u64 (X2 : Nat)] 43))
    have R3 := R2.alloc (.cells #[.int .i64 X0, .int .i64 X1, .int .u64 (X2 : Nat)] 43)
    have HH3 := Lib.hid H3
    have HR3 := Lib.hid R3
    have HH2 := Lib.hid H2
    have HR2 := Lib.hid R2
    clear hX0 hX1 hX2 H3 R3 H2 R2 hb2 H1 R1 L1 hl
    cases there with
    | false =>
      by_cases hE : X0 = (rep : Int) ∧ X1 = (d : Int) ∧ X2 = 0
      · have hnq : ∀ w, (binOp .neq 43 (.agg #[.int .i64 X0, .int .i64 X1, .int .u64 (X2 : Nat)]) (.agg #[.int .i64 (rep : Nat), .int .i64 (d : Nat), .int .u64 0])).run Try.prog w = .ok (.bool false) w := fun w => by
          rw [level_neq]; congr; rw [decide_eq_false_iff_not]; intro h; exact h ⟨hE.1, hE.2.1, by omega⟩
        have HRR := Lib.hid (show R = some (lefts.set c t, rec) by
          rw [← HR.out]
          show (match lefts.getD c [] with | [] => none | l :: t => _) = _
          rw [HLL.out]
          show (if x = ((rep : Int), (d : Int), 0) then some (lefts.set c t, rec) else none) = _
          rw [if_pos (by rw [HX.out, hE.1, hE.2.1, hE.2.2])])
        clear hE
        go_wp2_with fail
        have H7 := HH3.out
        have R7 := HR3.out
        generalize (w2.alloc (.cells #[.int .i64 X0, .int .i64 X1, .int .u64 (X2 : Nat)] 43)) = W at *
        have s0 : W.cell? ⟨S, 0, none⟩ = some (.slice (some ⟨C, 0, none⟩) N cN) := H7.s.c 0
        obtain ⟨a, cap, hv, hlv, hl1, hl2, hlo⟩ := H7.lv c hc
        rw [HLL.out] at hv hlv hl1 hlo
        have cc : W.cell? ⟨C, c, none⟩ = some (.slice a (t.length + 1) cap) := by
          rw [H7.c.c c]
          have : c < vs.length := Nat.lt_of_lt_of_le hc H7.vl
          simp only [List.length_cons] at hv
          rw [← hv]
          simp [List.getD, List.getElem?_eq_getElem this]
        have cz := H7.c.free c
        obtain ⟨b, off, rfl, hb, hcl⟩ := hlv (by simp)
        have hcI : (c : Int) < (N : Int) := by omega
        have hI1 : (1 : Int) ≤ ((t.length + 1 : Nat) : Int) := by omega
        have hNN := H7.nb
        have hcut := Lvs.cut1 hlv hl1
        simp only [List.length_cons] at hl1
        obtain ⟨A, hA⟩ : ∃ A, (if cap = 1 then some (⟨b, off, none⟩ : Addr) else some ⟨b, off + 3, none⟩) = A := ⟨_, rfl⟩
        rw [hA] at hcut
        have HCT := Lib.hid (show LvSl W B (.slice A t.length (cap - 1)) t from ⟨A, cap - 1, rfl, hcut, by omega, by omega, fun y hy => hlo y (List.mem_cons_of_mem _ hy)⟩)
        have H7 := Lib.hid H7
        have R7 := Lib.hid R7
        unfold maxLen at hl2
        clear hlv hcl hv hlo hcut
        go_region
        all_goals (go_wp2_with fail)
        all_goals (
          obtain rfl := HRR.out
          refine bodyPost_ret (v := .tuple #[]) (by simp [results, Try.results66, go_sem]) rfl ⟨rv, (R7.out.trans (frCut c _)).drew, rfl, vs.set c _, (H7.out.cut hc HCT.out).drew⟩)
      · have hnq : ∀ w, (binOp .neq 43 (.agg #[.int .i64 X0, .int .i64 X1, .int .u64 (X2 : Nat)]) (.agg #[.int .i64 (rep : Nat), .int .i64 (d : Nat), .int .u64 0])).run Try.prog w = .ok (.bool true) w := fun w => by
          rw [level_neq]; congr; rw [decide_eq_true_iff]; intro h; exact hE ⟨h.1, h.2.1, by omega⟩
        obtain rfl : R = none := by
          rw [← HR.out]
          show (match lefts.getD c [] with | [] => none | l :: t => _) = _
          rw [HLL.out]
          show (if x = ((rep : Int), (d : Int), 0) then some (lefts.set c t, rec) else none) = _
          rw [if_neg (by rw [HX.out]; intro e; simp only [Prod.mk.injEq] at e; exact hE e)]
        go_wp2_with fail
        refine And.intro rfl ?_
        exact (⟨rv, HR3.out, rfl⟩ : AsPost w B S C N cN none rv (gaveUp 1) _)
    | true =>
      have hBw : B ≤ w.heap.size := Nat.le_trans HS.out.bs.1 (Nat.le_of_lt HS.out.s.lt)
      have hno : ¬ Out S C [rv] w.heap.size := fun e => by have := (HS.out.out e).2; omega
      have W2D := Lib.hid ((HH2.out.setFar w.heap.size 2 (.int .u64 (X2 : Nat)) hBw hno).next ((Below.refl _ _).alloc (Nat.le_refl _) (.cells #[.int .i64 X0, .int .i64 X1, .int .u64 (X2 : Nat)] 43)))
      have W2F := Lib.hid ((HR2.out.setFar w.heap.size 2 (.int .u64 (X2 : Nat)) (Nat.le_refl _)).alloc (.cells #[.int .i64 X0, .int .i64 X1, .int .u64 (X2 : Nat)] 43))
      have W2L := Lib.hid (show Cel ((w2.setCell ⟨w.heap.size, 2, none⟩ (.int .u64 (X2 : Nat))).alloc (.cells #[.int .i64 X0, .int .i64 X1, .int .u64 (X2 : Nat)] 43)) w.heap.size #[.int .i64 (rep : Nat), .int .i64 (d : Nat), .int .u64 (X2 : Nat)] 43 by
        refine Cel.alloc ?_ _
        unfold Cel at *; simp [World.setCell, Array.getElem?_modify, L2])
      have W2T := Lib.hid (show Cel ((w2.setCell ⟨w.heap.size, 2, none⟩ (.int .u64 (X2 : Nat))).alloc (.cells #[.int .i64 X0, .int .i64 X1, .int .u64 (X2 : Nat)] 43)) w2.heap.size #[.int .i64 X0, .int .i64 X1, .int .u64 (X2 : Nat)] 43 from by have h := cel_new (w2.setCell ⟨w.heap.size, 2, none⟩ (.int .u64 (X2 : Nat))) #[.int .i64 X0, .int .i64 X1, .int .u64 (X2 : Nat)] 43; rwa [show (w2.setCell ⟨w.heap.size, 2, none⟩ (.int .u64 (X2 : Nat))).heap.size = w2.heap.size by simp [World.setCell]] at h)
      have W2S := Lib.hid (show ((w2.setCell ⟨w.heap.size, 2, none⟩ (.int .u64 (X2 : Nat))).alloc (.cells #[.int .i64 X0, .int .i64 X1, .int .u64 (X2 : Nat)] 43)).heap.size = w2.heap.size + 1 by simp [World.setCell])
      clear L2
      go_wp2_with fail
      have h1 := W2D.out
      have h2 := W2F.out
      have h3 := W2L.out
      have h4 := W2T.out
      have h5 := W2S.out
      generalize ((w2.setCell ⟨w.heap.size, 2, none⟩ (.int .u64 (X2 : Nat))).alloc (.cells #[.int .i64 X0, .int .i64 X1, .int .u64 (X2 : Nat)] 43)) = w3 at *
      refine (put_any w3 B S C N cN lefts vs rec rv h1 X2).mono ?_
      rintro e w5 ⟨rv', hfr, hp⟩
      obtain ⟨U, hU⟩ : ∃ U, Sh.asPut rec X2 = U := ⟨_, rfl⟩
      rw [hU] at hp
      have hRB : R = U.bind fun rec => if x = ((rep : Int), (d : Int), X2) then some (lefts.set c t, rec) else none := by
        rw [← HR.out]
        show (match lefts.getD c [] with | [] => none | l :: t => _) = _
        rw [HLL.out]
        show (Sh.asPut rec x.2.2).bind (fun rec => if x = ((rep : Int), (d : Int), x.2.2) then some (lefts.set c t, rec) else none) = _
        rw [show x.2.2 = X2 by rw [HX.out], hU]
      cases U with
      | none =>
        obtain rfl := hp
        obtain rfl : R = none := hRB
        refine And.intro rfl ?_
        exact (⟨rv', h2.trans hfr, rfl⟩ : AsPost w B S C N cN none rv (gaveUp 1) w5)
      | some rec' =>
        obtain ⟨rfl, hsd⟩ := hp
        have HD5 := Lib.hid hsd
        have HF5 := Lib.hid (h2.trans hfr)
        have q1 : ¬ Out S C [rv] w2.heap.size := fun e => by have := (HS.out.out e).2; omega
        have hLF := h3.fr hno hfr
        have hLT := h4.fr q1 hfr
        have l0 : w5.cell? ⟨w.heap.size, 0, none⟩ = some (.int .i64 (rep : Nat)) := hLF.c 0
        have l1 : w5.cell? ⟨w.heap.size, 1, none⟩ = some (.int .i64 (d : Nat)) := hLF.c 1
        have l2 : w5.cell? ⟨w.heap.size, 2, none⟩ = some (.int .u64 (X2 : Nat)) := hLF.c 2
        have k0 : w5.cell? ⟨w2.heap.size, 0, none⟩ = some (.int .i64 X0) := hLT.c 0
        have k1 : w5.cell? ⟨w2.heap.size, 1, none⟩ = some (.int .i64 X1) := hLT.c 1
        have k2 : w5.cell? ⟨w2.heap.size, 2, none⟩ = some (.int .u64 (X2 : Nat)) := hLT.c 2
        have HRB := Lib.hid hRB
        clear h1 h2 h3 h4 h5 W2D W2F W2L W2T W2S hfr hsd hLF hLT hU hRB
        by_cases hE : X0 = (rep : Int) ∧ X1 = (d : Int)
        · have hnq : ∀ w, (binOp .neq 43 (.agg #[.int .i64 X0, .int .i64 X1, .int .u64 (X2 : Nat)]) (.agg #[.int .i64 (rep : Nat), .int .i64 (d : Nat), .int .u64 (X2 : Nat)])).run Try.prog w = .ok (.bool false) w := fun w => by
            rw [level_neq]; congr; rw [decide_eq_false_iff_not]; intro h; exact h ⟨hE.1, hE.2, rfl⟩
          have HRR := Lib.hid (show R = some (lefts.set c t, rec') by
            rw [HRB.out]
            show (if x = ((rep : Int), (d : Int), X2) then some (lefts.set c t, rec') else none) = _
            rw [if_pos (by rw [HX.out, hE.1, hE.2])])
          clear hE
          go_wp2_with fail
          have H7 := HD5.out
          have R7 := HF5.out
          have s0 : w5.cell? ⟨S, 0, none⟩ = some (.slice (some ⟨C, 0, none⟩) N cN) := H7.s.c 0
          obtain ⟨a, cap, hv, hlv, hl1, hl2, hlo⟩ := H7.lv c hc
          rw [HLL.out] at hv hlv hl1 hlo
          have cc : w5.cell? ⟨C, c, none⟩ = some (.slice a (t.length + 1) cap) := by
            rw [H7.c.c c]
            have : c < vs.length := Nat.lt_of_lt_of_le hc H7.vl
            simp only [List.length_cons] at hv
            rw [← hv]
            simp [List.getD, List.getElem?_eq_getElem this]
          have cz := H7.c.free c
          obtain ⟨b, off, rfl, hb, hcl⟩ := hlv (by simp)
          have hcI : (c : Int) < (N : Int) := by omega
          have hI1 : (1 : Int) ≤ ((t.length + 1 : Nat) : Int) := by omega
          have hNN := H7.nb
          have hcut := Lvs.cut1 hlv hl1
          simp only [List.length_cons] at hl1
          obtain ⟨A, hA⟩ : ∃ A, (if cap = 1 then some (⟨b, off, none⟩ : Addr) else some ⟨b, off + 3, none⟩) = A := ⟨_, rfl⟩
          rw [hA] at hcut
          have HCT := Lib.hid (show LvSl w5 B (.slice A t.length (cap - 1)) t from ⟨A, cap - 1, rfl, hcut, by omega, by omega, fun y hy => hlo y (List.mem_cons_of_mem _ hy)⟩)
          have H7 := Lib.hid H7
          have R7 := Lib.hid R7
          unfold maxLen at hl2
          clear hlv hcl hv hlo hcut
          go_region
          all_goals (go_wp2_with fail)
          all_goals (
            obtain rfl := HRR.out
            refine bodyPost_ret (v := .tuple #[]) (by simp [results, Try.results66, go_sem]) rfl ⟨rv', (R7.out.trans (frCut c _)).drew, rfl, vs.set c _, (H7.out.cut hc HCT.out).drew⟩)
        · have hnq : ∀ w, (binOp .neq 43 (.agg #[.int .i64 X0, .int .i64 X1, .int .u64 (X2 : Nat)]) (.agg #[.int .i64 (rep : Nat), .int .i64 (d : Nat), .int .u64 (X2 : Nat)])).run Try.prog w = .ok (.bool true) w := fun w => by
            rw [level_neq]; congr; rw [decide_eq_true_iff]; intro h; exact hE ⟨h.1, h.2.1⟩
          obtain rfl : R = none := by
            rw [HRB.out]
            show (if x = ((rep : Int), (d : Int), X2) then some (lefts.set c t, rec') else none) = _
            rw [if_neg (by rw [HX.out]; intro e; simp only [Prod.mk.injEq] at e; exact hE ⟨e.1, e.2.1⟩)]
          go_wp2_with fail
          refine And.intro rfl ?_
          exact (⟨rv', HF5.out, rfl⟩ : AsPost w B S C N cN none rv (gaveUp 1) _)
end Go.Proofs.Ytjfkoledbegpfaa
