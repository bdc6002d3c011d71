/- The walk of the assembler's seen. -/
import Derived.Test.YtjfkoledbegpfaaDrawInv
import Derived.Test.YtjfkoledbegpfaaShA1
namespace Go.Proofs.Ytjfkoledbegpfaa
open Go.RowKit
open Sh (Lv)
set_option linter.unusedVariables false

def SeenPost (w : World) (R : Option Nat) (e : Ending) (w' : World) : Prop :=
  Below w.heap.size w w' ∧ match R with
  | none => e = gaveUp 1
  | some m => e = .returned (.int .u64 (m : Int))

theorem seen_nil {lefts : List (List Lv)} {r D P c : Nat} (h : lefts.getD c [] = []) : Sh.asSeen lefts r D P c = none := by unfold Sh.asSeen; rw [h]
theorem seen_cons {lefts : List (List Lv)} {r D P c : Nat} {x : Lv} {t : List Lv} (h : lefts.getD c [] = x :: t) : Sh.asSeen lefts r D P c = if x.2.1 < (D : Int) then some 0 else if r = 1 then some 1 else some (1 + Sh.again (P : Int) t) := by unfold Sh.asSeen; rw [h]

set_option maxHeartbeats 4000000 in
set_option maxRecDepth 100000 in
theorem seen_any (w : World) (B S C N cN : Nat) (lefts : List (List Lv)) (vs : List Value) (rec : List Nat) (rv : Value) (h : Asd w B S C N cN lefts vs rec rv) (r D P c T : Nat) (hr : r ≤ 2) (hc : c < N) (kv : Value) (o5 : kv.oneCell' = true) :
    Calls Try.prog 70 #[.pointer (some ⟨S, 0, none⟩), .agg #[.int .i64 (r : Nat), .int .i64 (D : Nat), .int .i64 (P : Nat), .int .i64 (c : Nat), .int .i64 (T : Nat), kv]] w (SeenPost w (Sh.asSeen lefts r D P c)) := by
  have HS := Lib.hid h
  obtain ⟨R, hR⟩ : ∃ R, Sh.asSeen lefts r D P c = R := ⟨_, rfl⟩
  rw [hR]
  have HR := Lib.hid hR
  clear h hR
  go_enter Try.func70, Try.ntmps70
  go_wp2_with fail
  have L1 := cel_new w #[.int .i64 (r : Nat), .int .i64 (D : Nat), .int .i64 (P : Nat), .int .i64 (c : Nat), .int .i64 (T : Nat), kv] 50
  have H1 := HS.out.next ((Below.refl _ _).alloc (Nat.le_refl _) (.cells #[.int .i64 (r : Nat), .int .i64 (D : Nat), .int .i64 (P : Nat), .int .i64 (c : Nat), .int .i64 (T : Nat), kv] 50))
  have B1 := (Below.refl w.heap.size w).alloc (Nat.le_refl _) (.cells #[.int .i64 (r : Nat), .int .i64 (D : Nat), .int .i64 (P : Nat), .int .i64 (c : Nat), .int .i64 (T : Nat), kv] 50)
  have S1 : (w.alloc (.cells #[.int .i64 (r : Nat), .int .i64 (D : Nat), .int .i64 (P : Nat), .int .i64 (c : Nat), .int .i64 (T : Nat), kv] 50)).heap.size = w.heap.size + 1 := by simp
  generalize w.alloc (.cells #[.int .i64 (r : Nat), .int .i64 (D : Nat), .int .i64 (P : Nat), .int .i64 (c : Nat), .int .i64 (T : Nat), kv] 50) = X at *
  have f1 : X.cell? ⟨w.heap.size, 1, none⟩ = some (.int .i64 (D : Nat)) := L1.c 1
  have f3 : X.cell? ⟨w.heap.size, 3, none⟩ = some (.int .i64 (c : Nat)) := L1.c 3
  have HN := Lib.hid (asnext_any X.drew B S C N cN lefts vs rec rv H1.drew c hc)
  have HL1 := Lib.hid L1
  have HH1 := Lib.hid H1
  have HB1 := Lib.hid B1
  have HS1 := Lib.hid S1
  obtain ⟨l, hl⟩ : ∃ l, lefts.getD c [] = l := ⟨_, rfl⟩
  rw [hl] at HN
  have HLL := Lib.hid hl
  clear L1 H1 B1 S1 hl
  cases l with
  | nil =>
    obtain rfl : R = none := by rw [← HR.out]; exact seen_nil HLL.out
    refine wp_region_inv (by kernel_rfl) (by kernel_rfl) (fun _ L a w' => L 3 = false ∧ L 4 = false ∧ w' = X.drew ∧ ∃ v8 v9 v10 v13 v14 : Value, a = { tmps := #[.pointer (some ⟨S, 0, none⟩), .agg #[.int .i64 (r : Nat), .int .i64 (D : Nat), .int .i64 (P : Nat), .int .i64 (c : Nat), .int .i64 (T : Nat), kv], undef, .pointer (some ⟨w.heap.size, 0, none⟩), .int .u64 0, undef, undef, undef, v8, v9, v10, undef, undef, v13, v14, undef, undef, undef, undef, undef, undef, undef, undef, undef, undef, undef, undef, undef, undef, undef, undef, undef, undef, undef, undef, undef, undef, undef, undef, undef, undef, undef, undef, undef, undef, undef, undef, undef], defers := [] } ∧ (L 0 = true → v8 = .pointer (some ⟨S, 0, none⟩)) ∧ (L 1 = true → v9 = .pointer (some ⟨w.heap.size, 3, none⟩)) ∧ (L 2 = true → v10 = .int .i64 (c : Int)) ∧ (L 5 = true → v13 = .pointer (some ⟨w.heap.size, 1, none⟩))) ?_ ?_ ?_
    · exact fun L h1 h2 => ⟨h1 3 (by decide), h1 4 (by decide), rfl, undef, undef, undef, undef, undef, rfl, fun h => (by rw [h1 0 (by decide)] at h; cases h), fun h => (by rw [h1 1 (by decide)] at h; cases h), fun h => (by rw [h1 2 (by decide)] at h; cases h), fun h => (by rw [h1 5 (by decide)] at h; cases h)⟩
    · refine steps_cons ?_ (steps_cons ?_ (steps_cons ?_ (steps_cons ?_ (steps_cons ?_ (steps_cons ?_ (steps_cons ?_ (steps_cons ?_ steps_nil)))))))
      · rintro L a w' ⟨hc3, hc4, rfl, v8, v9, v10, v13, v14, rfl, h8, h9, h10, h13⟩ hL haf K hK
        go_simp
        exact hK _ _ ⟨by simpa [done1] using hc3, by simpa [done1] using hc4, rfl, _, _, _, _, _, rfl, fun _ => rfl, fun h => h9 (by simpa [done1] using h), fun h => h10 (by simpa [done1] using h), fun h => h13 (by simpa [done1] using h)⟩
      · rintro L a w' ⟨hc3, hc4, rfl, v8, v9, v10, v13, v14, rfl, h8, h9, h10, h13⟩ hL haf K hK
        go_simp
        exact hK _ _ ⟨by simpa [done1] using hc3, by simpa [done1] using hc4, rfl, _, _, _, _, _, rfl, fun h => h8 (by simpa [done1] using h), fun _ => rfl, fun h => h10 (by simpa [done1] using h), fun h => h13 (by simpa [done1] using h)⟩
      · rintro L a w' ⟨hc3, hc4, rfl, v8, v9, v10, v13, v14, rfl, h8, h9, h10, h13⟩ hL haf K hK
        obtain rfl := h9 (haf ⟨1, .data⟩ (by simp) rfl)
        go_simp
        exact hK _ _ ⟨by simpa [done1] using hc3, by simpa [done1] using hc4, rfl, _, _, _, _, _, rfl, fun h => h8 (by simpa [done1] using h), fun h => h9 (by simpa [done1] using h), fun _ => rfl, fun h => h13 (by simpa [done1] using h)⟩
      · rintro L a w' ⟨hc3, hc4, rfl, v8, v9, v10, v13, v14, rfl, h8, h9, h10, h13⟩ hL haf K hK
        obtain rfl := h8 (haf ⟨0, .data⟩ (by simp) rfl)
        obtain rfl := h10 (haf ⟨2, .data⟩ (by simp) rfl)
        go_simp
        refine HN.out.mono ?_
        rintro e w5 ⟨hb5, rfl⟩
        refine And.intro rfl ?_
        exact (⟨HB1.out.drew.trans (hb5.mono (by have := HS1.out; show w.heap.size ≤ X.heap.size; omega)), rfl⟩ : SeenPost w none (gaveUp 1) w5)
      · rintro L a w' ⟨hc3, -⟩ hL haf
        exact absurd (haf ⟨3, .data⟩ (by simp) rfl) (by rw [hc3]; simp)
      · rintro L a w' ⟨hc3, hc4, rfl, v8, v9, v10, v13, v14, rfl, h8, h9, h10, h13⟩ hL haf K hK
        go_simp
        exact hK _ _ ⟨by simpa [done1] using hc3, by simpa [done1] using hc4, rfl, _, _, _, _, _, rfl, fun h => h8 (by simpa [done1] using h), fun h => h9 (by simpa [done1] using h), fun h => h10 (by simpa [done1] using h), fun _ => rfl⟩
      · rintro L a w' ⟨hc3, hc4, rfl, v8, v9, v10, v13, v14, rfl, h8, h9, h10, h13⟩ hL haf K hK
        obtain rfl := h13 (haf ⟨5, .data⟩ (by simp) rfl)
        go_simp
        exact hK _ _ ⟨by simpa [done1] using hc3, by simpa [done1] using hc4, rfl, _, _, _, _, _, rfl, fun h => h8 (by simpa [done1] using h), fun h => h9 (by simpa [done1] using h), fun h => h10 (by simpa [done1] using h), fun h => h13 (by simpa [done1] using h)⟩
      · rintro L a w' ⟨-, hc4, -⟩ hL haf
        exact absurd (haf ⟨4, .data⟩ (by simp) rfl) (by rw [hc4]; simp)
    · rintro L a' w' hall ⟨h3, -⟩
      rw [hall 3] at h3; cases h3
  | cons x t =>
    have hfl : ∀ (u0 u2 : Value) (i : Int) (w : World), (Instr.field 43 (.agg #[u0, .int .i64 i, u2]) 1).run Try.prog w = .ok (.int .i64 i) w := fun _ _ _ _ => by kernel_rfl
    have HBX := Lib.hid (show ∀ w5, Below X.drew.heap.size X.drew w5 → Below w.heap.size w w5 from fun w5 hb5 => HB1.out.drew.trans (hb5.mono (by have := HS1.out; show w.heap.size ≤ X.heap.size; omega)))
    by_cases hlt : x.2.1 < (D : Int)
    · have HRR := Lib.hid (show R = some 0 by rw [← HR.out, seen_cons HLL.out, if_pos hlt])
      go_region_with (go_at_call 69; refine HN.out.mono ?_; rintro e w5 ⟨hb5, rfl⟩; have g1 : w5.cell? ⟨w.heap.size, 1, none⟩ = some (.int .i64 (D : Nat)) := (HL1.out.drew.next hb5).c 1; have g0 : w5.cell? ⟨w.heap.size, 0, none⟩ = some (.int .i64 (r : Nat)) := (HL1.out.drew.next hb5).c 0)
      all_goals (go_wp2_with fail)
      all_goals go_ret
      all_goals (obtain rfl := HRR.out; exact ⟨HBX.out _ hb5, rfl⟩)
    · by_cases hr1 : r = 1
      · have HRR := Lib.hid (show R = some 1 by rw [← HR.out, seen_cons HLL.out, if_neg hlt, if_pos hr1])
        have hrI : ((r : Int) == 1) = true := by rw [hr1]; rfl
        go_region_with (go_at_call 69; refine HN.out.mono ?_; rintro e w5 ⟨hb5, rfl⟩; have g1 : w5.cell? ⟨w.heap.size, 1, none⟩ = some (.int .i64 (D : Nat)) := (HL1.out.drew.next hb5).c 1; have g0 : w5.cell? ⟨w.heap.size, 0, none⟩ = some (.int .i64 (r : Nat)) := (HL1.out.drew.next hb5).c 0)
        all_goals (go_wp2_with fail)
        all_goals go_ret
        all_goals (obtain rfl := HRR.out; exact ⟨HBX.out _ hb5, rfl⟩)
      · have HRR := Lib.hid (show R = some (1 + Sh.again (P : Int) t) by rw [← HR.out, seen_cons HLL.out, if_neg hlt, if_neg hr1])
        have hrI : ((r : Int) == 1) = false := by rw [beq_eq_false_iff_ne]; omega
        go_region_with (go_at_call 69; refine HN.out.mono ?_; rintro e w5 ⟨hb5, rfl⟩; have g1 : w5.cell? ⟨w.heap.size, 1, none⟩ = some (.int .i64 (D : Nat)) := (HL1.out.drew.next hb5).c 1; have g0 : w5.cell? ⟨w.heap.size, 0, none⟩ = some (.int .i64 (r : Nat)) := (HL1.out.drew.next hb5).c 0)
        all_goals (go_wp2_with fail)
        all_goals (
          have HB5 := Lib.hid hb5
          have H5 := HH1.out.drew.next hb5
          have L5 := HL1.out.drew.next hb5
          have g2 : w5.cell? ⟨w.heap.size, 2, none⟩ = some (.int .i64 (P : Nat)) := L5.c 2
          have g3 : w5.cell? ⟨w.heap.size, 3, none⟩ = some (.int .i64 (c : Nat)) := L5.c 3
          have s0 : w5.cell? ⟨S, 0, none⟩ = some (.slice (some ⟨C, 0, none⟩) N cN) := H5.s.c 0
          obtain ⟨a, cap, hv, hlv, hl1, hl2, hlo⟩ := H5.lv c hc
          rw [HLL.out] at hv hlv hl1 hlo
          have cc : w5.cell? ⟨C, c, none⟩ = some (.slice a (t.length + 1) cap) := by
            rw [H5.c.c c]
            have : c < vs.length := Nat.lt_of_lt_of_le hc H5.vl
            simp only [List.length_cons] at hv
            rw [← hv]
            simp [List.getD, List.getElem?_eq_getElem this]
          obtain ⟨b, off, rfl, hb, hcl⟩ := hlv (by simp)
          have hcI : (c : Int) < (N : Int) := by omega
          have hI1 : (1 : Int) ≤ ((t.length + 1 : Nat) : Int) := by omega
          have hNN := H5.nb
          simp only [List.length_cons] at hl1
          unfold maxLen at hl2
          obtain ⟨A, hA⟩ : ∃ A, (if cap = 1 then some (⟨b, off, none⟩ : Addr) else some ⟨b, off + 3, none⟩) = A := ⟨_, rfl⟩
          have HA := Lib.hid hA
          have HH5 := Lib.hid H5
          have HL5 := Lib.hid L5
          clear hb5 H5 L5 hlv hcl hv hlo
          have HLV := Lib.hid (show Lvs w5 B A t by
            obtain ⟨a', cap', hv', hlv', hl1', -⟩ := HH5.out.lv c hc
            rw [HLL.out] at hv' hlv' hl1'
            have e1 : (Value.slice a' (x :: t).length cap') = .slice (some ⟨b, off, none⟩) (t.length + 1) cap := by
              have e2 := HH5.out.c.c c
              rw [cc] at e2
              have : c < vs.length := Nat.lt_of_lt_of_le hc HH5.out.vl
              rw [← hv']
              simp only [List.getD, List.getElem?_eq_getElem this]
              simpa [this] using e2.symm
            have e3 : a' = some ⟨b, off, none⟩ ∧ cap' = cap := by
              injection e1 with q1 q2 q3
              exact ⟨q1, q3⟩
            obtain ⟨rfl, rfl⟩ := e3
            rw [← HA.out]
            exact Lvs.cut1 hlv' hl1')
          go_quiet (fail)
          have B6 := HBX.out _ HB5.out
          have LV6 := HLV.out.below (below_drewN (Below.refl B w5) nq)
          have L6 := HL5.out.next (below_drewN (Below.refl _ w5) nq)
          have B7 := B6.trans (below_drewN (Below.refl _ w5) nq)
          generalize w5.drewN nq = w7 at *
          have HB7 := Lib.hid B7
          have HL7 := Lib.hid L6
          have HV7 := Lib.hid LV6
          have hBw : B ≤ w.heap.size := by have := HS.out.bs; have := HS.out.s.lt; omega
          have hTL : t.length ≤ 9223372036854775806 := by omega
          clear B6 LV6 L6 B7 g0 g1 g2 g3 s0 cc hA HLV
          obtain ⟨M, hM⟩ : ∃ M, M = t.length := ⟨_, rfl⟩
          rw [← hM]
          have HM := Lib.hid hM
          rw [← hM] at hTL
          clear hM
          go_wp2_with fail
          go_loopw [5, 30] (fun v i wr => ∃ j q : Nat, j ≤ M ∧ q ≤ j ∧ i = .int .i64 j ∧ v = .int .u64 ((1 + q : Nat) : Int) ∧ Hid (q + Sh.again (P : Int) (t.drop j) = Sh.again (P : Int) t) ∧ Below w.heap.size w wr ∧ Cel wr w.heap.size #[.int .i64 (r : Nat), .int .i64 (D : Nat), .int .i64 (P : Nat), .int .i64 (c : Nat), .int .i64 (T : Nat), kv] 50 ∧ Lvs wr B A t) (fun _ i _ => M - (intOf i).toNat)
          case atStart => exact ⟨0, 0, Nat.zero_le _, Nat.le_refl _, rfl, rfl, Lib.hid (by rw [List.drop_zero, Nat.zero_add]), HB7.out, HL7.out, HV7.out⟩
          case round =>
            obtain ⟨j, q, hjM, hqj, rfl, rfl, HQ, hbr, hlr, hvr⟩ := hrel
            rename World => wr
            have HBR := Lib.hid hbr
            have HLR := Lib.hid hlr
            have HVR := Lib.hid hvr
            have g2 : wr.cell? ⟨w.heap.size, 2, none⟩ = some (.int .i64 (P : Nat)) := hlr.c 2
            have hlt2 := hlr.lt
            clear hbr hlr
            by_cases hjl : j = M
            · subst hjl
              have hR1 : R = some (1 + q) := by
                rw [HRR.out, ← HQ.out, List.drop_eq_nil_of_le (by rw [← HM.out]; exact Nat.le_refl _)]
                rfl
              have HR1 := Lib.hid hR1
              have hjI : ¬ (j : Int) < (j : Int) := by omega
              clear hR1 hvr
              go_wp2_with fail
              go_ret
              obtain rfl := HR1.out
              exact ⟨HBR.out, rfl⟩
            · have hjI : (j : Int) < (M : Int) := by omega
              have hjt : j < t.length := by have := HM.out; omega
              obtain ⟨bA, oA, rfl, hbA, hcA⟩ := hvr (List.ne_nil_of_length_pos (by omega))
              obtain ⟨q0, q1, q2⟩ := hcA j hjt
              obtain ⟨y, hy⟩ : ∃ y, t.getD j (0, 0, 0) = y := ⟨_, rfl⟩
              rw [hy] at q0 q1 q2
              have hdr : t.drop j = y :: t.drop (j + 1) := by
                rw [List.drop_eq_getElem_cons hjt, ← hy]
                simp [List.getD, List.getElem?_eq_getElem hjt]
              have HDR := Lib.hid hdr
              have hnb : ¬ bA = wr.heap.size := by omega
              have hnf : ¬ w.heap.size = wr.heap.size := by omega
              have hblt : bA < wr.heap.size := by omega
              have hqw : IntKind.u64.wrap (((1 + q : Nat) : Int) + 1) = ((1 + (q + 1) : Nat) : Int) := by rw [show (((1 + q : Nat) : Int) + 1) = ((1 + (q + 1) : Nat) : Int) by omega]; exact IntWalk.u64_in _ (by omega)
              obtain ⟨Y0, hY0⟩ : ∃ Y0, y.1 = Y0 := ⟨_, rfl⟩
              obtain ⟨Y1, hY1⟩ : ∃ Y1, y.2.1 = Y1 := ⟨_, rfl⟩
              obtain ⟨Y2, hY2⟩ : ∃ Y2, y.2.2 = Y2 := ⟨_, rfl⟩
              rw [hY0] at q0
              rw [hY1] at q1
              rw [hY2] at q2
              have HYY := Lib.hid hY0
              obtain ⟨v0, hv0⟩ : ∃ v0 : Nat, 1 + q = v0 := ⟨_, rfl⟩
              rw [hv0]
              rw [hv0] at hqw
              have HV0 := Lib.hid hv0
              have BA := HBR.out.alloc HBR.out.size (.cells #[.int .i64 Y0, .int .i64 Y1, .int .u64 (Y2 : Nat)] 43)
              have LA := HLR.out.alloc (.cells #[.int .i64 Y0, .int .i64 Y1, .int .u64 (Y2 : Nat)] 43)
              have VA := HVR.out.below ((Below.refl B wr).alloc (by omega) (.cells #[.int .i64 Y0, .int .i64 Y1, .int .u64 (Y2 : Nat)] 43))
              have HBA := Lib.hid BA
              have HLA := Lib.hid LA
              have HVA := Lib.hid VA
              clear hcA hdr hY0 hY1 hY2 hvr hy hv0 BA LA VA
              by_cases hlP : Y0 < (P : Int)
              · have HR1 := Lib.hid (show R = some v0 by
                  rw [HRR.out, ← HQ.out, HDR.out]
                  have : Sh.again (P : Int) (y :: t.drop (j + 1)) = 0 := by
                    show (if y.1 < (P : Int) then 0 else _) = 0
                    rw [HYY.out, if_pos hlP]
                  rw [this, Nat.add_zero, HV0.out])
                go_wp2_with fail
                go_ret
                obtain rfl := HR1.out
                exact ⟨HBA.out, rfl⟩
              · by_cases heP : Y0 = (P : Int)
                · have HQ2 := Lib.hid (show (q + 1) + Sh.again (P : Int) (t.drop (j + 1)) = Sh.again (P : Int) t by
                    rw [← HQ.out, HDR.out]
                    have : Sh.again (P : Int) (y :: t.drop (j + 1)) = 1 + Sh.again (P : Int) (t.drop (j + 1)) := by
                      show (if y.1 < (P : Int) then 0 else (if y.1 = (P : Int) then 1 else 0) + Sh.again (P : Int) (t.drop (j + 1))) = _
                      rw [HYY.out, if_neg hlP, if_pos heP]
                    omega)
                  have hePb : (Y0 == (P : Int)) = true := by rw [heP]; exact beq_self_eq_true _
                  clear heP
                  go_wp2_with fail
                  refine ⟨⟨j + 1, q + 1, by omega, by omega, by go_num, by go_num, HQ2, HBA.out, HLA.out, HVA.out⟩, ?_⟩
                  simp [intOf]; omega
                · have HQ2 := Lib.hid (show q + Sh.again (P : Int) (t.drop (j + 1)) = Sh.again (P : Int) t by
                    rw [← HQ.out, HDR.out]
                    have : Sh.again (P : Int) (y :: t.drop (j + 1)) = 0 + Sh.again (P : Int) (t.drop (j + 1)) := by
                      show (if y.1 < (P : Int) then 0 else (if y.1 = (P : Int) then 1 else 0) + Sh.again (P : Int) (t.drop (j + 1))) = _
                      rw [HYY.out, if_neg hlP, if_neg heP]
                    omega)
                  have hePb : (Y0 == (P : Int)) = false := by rw [beq_eq_false_iff_ne]; exact heP
                  go_wp2_with fail
                  refine ⟨⟨j + 1, q, by omega, by omega, by go_num, by rw [HV0.out], HQ2, HBA.out, HLA.out, HVA.out⟩, ?_⟩
                  simp [intOf]; omega)
end Go.Proofs.Ytjfkoledbegpfaa
