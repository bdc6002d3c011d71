/- The walk of runs.sized. -/
import Derived.Test.YthmlafoceacliabRF2
import Derived.Sort.CutIn
namespace Go.Proofs.Ythmlafoceacliab
open Go.RowKit Go.Shelf
attribute [local go_sem] Oper.semAt_some
set_option linter.unusedVariables false

def SizedPost (r : Int × Nat) (w : World) (e : Ending) (w' : World) : Prop := e = .returned (.tuple #[.int .i64 r.1, .int .i64 (r.2 : Int)]) ∧ Below w.heap.size w w'
def szR (l : List R.Run) : Int × Nat := if er 0 (plc l) = 0 then (endOf 0 (plc l), 0) else (0, er 0 (plc l))
theorem Box2.ne {W : World} {B : Nat} {t : TypeId} {v : Value} {x m : Int} (h : Boxed W B t v) (k : Box2 W B x m) : False := by
  have h' : W.heap[B]? = _ := h
  unfold Box2 at k
  rw [k] at h'
  injection h' with h'
  injection h' with h'
  simp at h'
theorem Kp.setBox {st : Bool} {n : Nat} {W : World} {B : Nat} {t : TypeId} {v : Value} (h : Boxed W B t v) (hn : n ≤ B) (hs : n ≤ W.heap.size) (u : Value) : Kp st n W (W.setCell ⟨B, 0, none⟩ u) :=
  Kp.grown (grownBy_setCell' W B u) hs (fun k hk => by cases hk; exact ⟨hn, fun x m hb => Box2.ne h hb⟩)
theorem Kp.drew {st : Bool} {n : Nat} (W : World) : Kp st n W W.drew := ⟨(Below.refl n W).drew, fun b x m h => ⟨x, m, h, fun _ => ⟨rfl, rfl⟩⟩⟩

set_option maxRecDepth 100000 in
set_option maxHeartbeats 4000000 in
theorem sized_in (F : Fence) (n : Nat) (h22 : F.fn 22) (h23 : F.fn 23) (h24 : F.fn 24) (hro : F.round = none) (hn : 3 ≤ n) (a : Option Addr) (cap : Nat) (l : List R.Run) (w : World) (hl : l.length ≤ maxLen) (hu : Runs w w.heap.size a l) :
    CallsIn F n Try.prog 22 #[.slice a l.length cap] w (SizedPost (szR l) w) := by
  have h1 : 1 ≤ n := by omega
  refine callsIn_of_wp_marks Try.func22 rfl h22 ?_ hro
  simp only [Try.ntmps22, List.size_toArray, List.length_cons, List.length_nil, Nat.reduceAdd, Nat.reduceSub, Array.replicate_succ, Array.replicate_zero, List.push_toArray, List.append_toArray, List.nil_append, List.cons_append]
  gi_wp2_with (gi_at_call 23; refine (placed_in F (n - 1) h23 hro _ _ _ _).mono ?_; rintro e w' ⟨rfl, rfl⟩)
  have bR := ((((Boxed.new w 3 (.int .i64 0)).alloc (.cells #[.int .i64 0] 24)).alloc (.cells #[.int .i64 0] 3)).alloc (.cells #[.int .u64 0] 34)).alloc (.cells #[.slice a l.length cap] 23)
  have bE := (((Boxed.new (w.alloc (.cells #[.int .i64 0] 3)) 24 (.int .i64 0)).alloc (.cells #[.int .i64 0] 3)).alloc (.cells #[.int .u64 0] 34)).alloc (.cells #[.slice a l.length cap] 23)
  have bN := ((Boxed.new ((w.alloc (.cells #[.int .i64 0] 3)).alloc (.cells #[.int .i64 0] 24)) 3 (.int .i64 0)).alloc (.cells #[.int .u64 0] 34)).alloc (.cells #[.slice a l.length cap] 23)
  have bL := (Boxed.new (((w.alloc (.cells #[.int .i64 0] 3)).alloc (.cells #[.int .i64 0] 24)).alloc (.cells #[.int .i64 0] 3)) 34 (.int .u64 0)).alloc (.cells #[.slice a l.length cap] 23)
  have bS := Boxed.new ((((w.alloc (.cells #[.int .i64 0] 3)).alloc (.cells #[.int .i64 0] 24)).alloc (.cells #[.int .i64 0] 3)).alloc (.cells #[.int .u64 0] 34)) 23 (.slice a l.length cap)
  simp only [World.size_alloc] at bE bN bL bS
  have hB0 : Below w.heap.size w (((((w.alloc (.cells #[.int .i64 0] 3)).alloc (.cells #[.int .i64 0] 24)).alloc (.cells #[.int .i64 0] 3)).alloc (.cells #[.int .u64 0] 34)).alloc (.cells #[.slice a l.length cap] 23)) := (((((Below.refl _ w).alloc (Nat.le_refl _) _).alloc (by simp) _).alloc (by simp; omega) _).alloc (by simp; omega) _).alloc (by simp; omega) _
  have hsz : (((((w.alloc (.cells #[.int .i64 0] 3)).alloc (.cells #[.int .i64 0] 24)).alloc (.cells #[.int .i64 0] 3)).alloc (.cells #[.int .u64 0] 34)).alloc (.cells #[.slice a l.length cap] 23)).heap.size = w.heap.size + 5 := by simp
  obtain ⟨W0, hW0⟩ : ∃ W0, ((((w.alloc (.cells #[.int .i64 0] 3)).alloc (.cells #[.int .i64 0] 24)).alloc (.cells #[.int .i64 0] 3)).alloc (.cells #[.int .u64 0] 34)).alloc (.cells #[.slice a l.length cap] 23) = W0 := ⟨_, rfl⟩
  rw [hW0] at bR bE bN bL bS hB0 hsz ⊢
  clear hW0
  refine wpIn_rangeFunc_ownH hro h1 (gf := 24) (lb := #[.pointer (some ⟨w.heap.size + 1 + 1 + 1 + 1, 0, none⟩)]) rfl h24 (enters_of Try.func24 (by kernel_rfl) rfl)
    (placed_stops (fun x : PX => x) (plc l) F (n - 1) h24 hro (by omega) (w.heap.size + 1 + 1 + 1 + 1) w.heap.size cap a l hl (by simp) W0 (by omega) (by omega) bS.cell (hu.below hB0)) (fun h k => h.trans k) (fun W l o o' h1 h2 h3 _ => Kp.put W l o o' (by omega) h2 h3) (Below.refl _ _) (fun _ => rfl)
    (fun pre W => ((Boxed W (w.heap.size + 1 + 1) 3 (.int .i64 (endOf 0 pre)) ∧ Boxed W (w.heap.size + 1 + 1 + 1) 34 (.int .u64 (lastOf 0 pre : Nat))) ∧ (Boxed W w.heap.size 3 (.int .i64 0) ∧ Boxed W (w.heap.size + 1) 24 (.int .i64 0))) ∧ (er 0 pre = 0 ∧ Below w.heap.size w W))
    (fun c pre W => (c = .ret ∧ er 0 pre ≠ 0) ∧ ((Boxed W w.heap.size 3 (.int .i64 0) ∧ Boxed W (w.heap.size + 1) 24 (.int .i64 (er 0 pre : Nat))) ∧ Below w.heap.size w W))
    (OwnFrom.and (OwnFrom.and (OwnFrom.and (Own.from (boxed_own _ _ _) _) (Own.from (boxed_own _ _ _) _)) (OwnFrom.and (Own.from (boxed_own _ _ _) _) (Own.from (boxed_own _ _ _) _))) (OwnFrom.and (ownFrom_pure _ _) (ownFrom_below (Nat.le_refl _) (by omega))))
    (fun c => OwnFrom.and (ownFrom_pure _ _) (OwnFrom.and (OwnFrom.and (Own.from (boxed_own _ _ _) _) (Own.from (boxed_own _ _ _) _)) (ownFrom_below (Nat.le_refl _) (by omega))))
    ⟨⟨⟨bN, bL⟩, bR, bE⟩, rfl, hB0⟩
    (fun x a' W => ∃ Bx, w.heap.size + 1 + 1 + 1 < Bx ∧ Box2 W Bx (x.2.1 : Int) x.2.2 ∧ a' = { tmps := #[.slice a l.length cap, undef, .pointer (some ⟨w.heap.size, 0, none⟩), .pointer (some ⟨w.heap.size + 1, 0, none⟩), .pointer (some ⟨w.heap.size + 1 + 1, 0, none⟩), .pointer (some ⟨w.heap.size + 1 + 1 + 1, 0, none⟩), .int .i64 x.1, .pointer (some ⟨Bx, 0, none⟩), .slice a l.length cap, .func (.func 24) #[] #[.pointer (some ⟨w.heap.size + 1 + 1 + 1 + 1, 0, none⟩)], .int .i64 x.1, .agg #[.int .u64 (x.2.1 : Int), .int .i64 x.2.2], undef, undef, undef, undef, undef, undef, undef, undef, undef, undef, undef, undef, undef, undef, undef, undef, undef, undef, undef, undef, undef, undef, undef, undef, undef], defers := [] })
    (fun x a' _ X Y row hs hg hr => by obtain ⟨Bx, k1, k2, k3⟩ := hs; exact ⟨Bx, k1, (hg.block Bx k2.lt (fun e => by obtain ⟨_, o, ho, hc⟩ := hr Bx e.symm; unfold Box2 at k2; rw [k2] at ho; cases ho; cases hc)).trans k2, k3⟩)
    ?assign ?body ?done ?stop
  case assign =>
    rintro lp pre x W K ⟨⟨⟨bN1, bL1⟩, bR1, bE1⟩, her, hB1⟩ hK
    obtain ⟨f, y, m⟩ := x
    have hs1 := hB1.size
    dsimp only [pxv]
    gi_wp2
    exact hK _ _ ((KeepsOthers.alloc _ _).from _) (Kp.alloc hs1 _) ⟨⟨⟨bN1.alloc _, bL1.alloc _⟩, bR1.alloc _, bE1.alloc _⟩, her, hB1.alloc hs1 _⟩ ⟨W.heap.size, bL1.lt, Box2.new W _ _, rfl⟩
  case body =>
    rintro lp pre x a' W hlp ⟨r, hr⟩ ⟨⟨⟨bN1, bL1⟩, bR1, bE1⟩, her, hB1⟩ ⟨Bx, hBx, bX, rfl⟩ hlt
    obtain ⟨f, y, m⟩ := x
    have hsn := er_snoc pre (f, y, m) her
    have hls := lastOf_snoc pre (f, y, m) 0
    have hen := endOf_snoc pre (f, y, m) 0
    simp only [stp] at hsn
    simp only at hls hen bX
    generalize lastOf 0 pre = la at *
    generalize endOf 0 pre = en at *
    have HLS := Lib.hid hls
    have HEN := Lib.hid hen
    have HHR := Lib.hid hr
    have HER := Lib.hid her
    have cN := bN1.cell
    have fN := bN1.frozen
    have cL := bL1.cell
    have fL := bL1.frozen
    have cR := bR1.cell
    have fR := bR1.frozen
    have cE := bE1.cell
    have fE := bE1.frozen
    have x0 := bX.c0
    have x1 := bX.c1
    clear hls hen hr her
    by_cases hm1 : m < 1
    · rw [if_pos (Or.inl hm1)] at hsn
      have HSN := Lib.hid hsn
      have g1 : decide (m < 1) = true := by simp; omega
      clear hsn
      gi_wp2
      exact ⟨((KeepsOthers.setCell _ _ _).trans (KeepsOthers.setCell _ _ _)).from _, ⟨rfl, by rw [HSN.out]; omega⟩, ⟨(bR1.set _).other (by omega) _, by rw [HSN.out]; exact (bE1.other (by omega) _).set _⟩, (hB1.setCell (p := ⟨w.heap.size, 0, none⟩) (Nat.le_refl _) _).setCell (p := ⟨w.heap.size + 1, 0, none⟩) (by simp) _⟩
    have g1 : decide (m < 1) = false := by simp; omega
    by_cases hm2 : 64 < m
    · rw [if_pos (Or.inr hm2)] at hsn
      have HSN := Lib.hid hsn
      have g2 : decide (64 < m) = true := by simp; omega
      clear hsn
      gi_wp2
      exact ⟨((KeepsOthers.setCell _ _ _).trans (KeepsOthers.setCell _ _ _)).from _, ⟨rfl, by rw [HSN.out]; omega⟩, ⟨(bR1.set _).other (by omega) _, by rw [HSN.out]; exact (bE1.other (by omega) _).set _⟩, (hB1.setCell (p := ⟨w.heap.size, 0, none⟩) (Nat.le_refl _) _).setCell (p := ⟨w.heap.size + 1, 0, none⟩) (by simp) _⟩
    have g2 : decide (64 < m) = false := by simp; omega
    rw [if_neg (by omega)] at hsn
    have hm1' : 1 ≤ m := by omega
    have hm2' : m ≤ 64 := by omega
    clear hm1 hm2
    by_cases hf : 0 < f ∧ y = la
    · rw [if_pos hf] at hsn
      have HSN := Lib.hid hsn
      have g3 : decide (0 < f) = true := by simp; omega
      have g4 : ((y : Int) == (la : Int)) = true := by rw [hf.2]; simp
      clear hsn hf
      gi_wp2
      exact ⟨((KeepsOthers.setCell _ _ _).trans (KeepsOthers.setCell _ _ _)).from _, ⟨rfl, by rw [HSN.out]; omega⟩, ⟨(bR1.set _).other (by omega) _, by rw [HSN.out]; exact (bE1.other (by omega) _).set _⟩, (hB1.setCell (p := ⟨w.heap.size, 0, none⟩) (Nat.le_refl _) _).setCell (p := ⟨w.heap.size + 1, 0, none⟩) (by simp) _⟩
    rw [if_neg hf] at hsn
    have hg : decide (0 < f) = false ∨ (decide (0 < f) = true ∧ ((y : Int) == (la : Int)) = false) := by
      by_cases h0 : 0 < f
      · right; refine ⟨by simp; omega, by rw [beq_eq_false_iff_ne]; intro e; exact hf ⟨h0, by omega⟩⟩
      · left; simp; omega
    clear hf
    have hmix : Try.prog.follows Departure.mixedOrders = true := by kernel_rfl
    have HS1 := Lib.hid hsn
    clear hsn
    clear cR fR cE fE
    rcases hg with g3 | ⟨g3, g4⟩
    all_goals
      gi_upto_region 10 with (fail)
      gi_cut [] from 28 (fun wx => wx = ((W.setCell ⟨w.heap.size + 1 + 1, 0, none⟩ (.int .i64 (IntKind.i64.wrap (f + m)))).setCell ⟨w.heap.size + 1 + 1 + 1, 0, none⟩ (.int .u64 (y : Int))).drew)
      · gi_region_with_o (fail)
        all_goals (rename_i J9 K9 hJ9 hK9; refine hK9 _ _ (hJ9 _ _ ?_); (repeat apply Exists.intro); exact ⟨rfl, rfl⟩)
      · have bN2 : Boxed wc (w.heap.size + 1 + 1) 3 (.int .i64 (wrap64 (f + m))) := by rw [hcut, show wrap64 (f + m) = IntKind.i64.wrap (f + m) from (IntWalk.i64_left (f + m)).symm]; exact ((bN1.set _).other (show w.heap.size + 1 + 1 ≠ w.heap.size + 1 + 1 + 1 by omega) _)
        have bL2 : Boxed wc (w.heap.size + 1 + 1 + 1) 34 (.int .u64 (y : Int)) := by rw [hcut]; exact ((bL1.other (show w.heap.size + 1 + 1 + 1 ≠ w.heap.size + 1 + 1 by omega) _).set _)
        have bR2 : Boxed wc w.heap.size 3 (.int .i64 0) := by rw [hcut]; exact ((bR1.other (show w.heap.size ≠ w.heap.size + 1 + 1 by omega) _).other (show w.heap.size ≠ w.heap.size + 1 + 1 + 1 by omega) _)
        have bE2 : Boxed wc (w.heap.size + 1) 24 (.int .i64 0) := by rw [hcut]; exact ((bE1.other (show w.heap.size + 1 ≠ w.heap.size + 1 + 1 by omega) _).other (show w.heap.size + 1 ≠ w.heap.size + 1 + 1 + 1 by omega) _)
        have hB2 : Below w.heap.size w wc := by rw [hcut]; exact ((hB1.setCell (p := ⟨w.heap.size + 1 + 1, 0, none⟩) (by simp; omega) _).setCell (p := ⟨w.heap.size + 1 + 1 + 1, 0, none⟩) (by simp; omega) _).drew
        have hK2 : KeepsOthers W wc := by rw [hcut]; exact ((KeepsOthers.setCell _ _ _).trans (KeepsOthers.setCell _ _ _)).trans (KeepsOthers.drew _)
        have hP2 : Kp true w.heap.size W wc := by
          rw [hcut]
          have hs1 := hB1.size
          exact ((Kp.setBox bN1 (by omega) hs1 _).trans (Kp.setBox (bL1.other (show w.heap.size + 1 + 1 + 1 ≠ w.heap.size + 1 + 1 by omega) _) (by omega) (by simpa using hs1) _)).trans (Kp.drew _)
        clear hcut cN fN cL fL x0 x1 bN1 bL1 bR1 bE1 bX
        have cN := bN2.cell
        have cR := bR2.cell
        have fR := bR2.frozen
        have cE := bE2.cell
        have fE := bE2.frozen
        by_cases hs : 64 < wrap64 (f + m)
        · have HSN := Lib.hid (HS1.out.trans (if_pos hs))
          have g5 : decide (64 < wrap64 (f + m)) = true := by simp; omega
          clear hs
          generalize wrap64 (f + m) = e at *
          gi_wp2
          exact ⟨(hK2.trans ((KeepsOthers.setCell _ _ _).trans (KeepsOthers.setCell _ _ _))).from _, ⟨rfl, by rw [HSN.out]; omega⟩, ⟨(bR2.set _).other (by omega) _, by rw [HSN.out]; exact (bE2.other (by omega) _).set _⟩, (hB2.setCell (p := ⟨w.heap.size, 0, none⟩) (Nat.le_refl _) _).setCell (p := ⟨w.heap.size + 1, 0, none⟩) (by simp) _⟩
        · have HSN := Lib.hid (HS1.out.trans (if_neg hs))
          have g5 : decide (64 < wrap64 (f + m)) = false := by simp; omega
          clear hs
          generalize wrap64 (f + m) = e at *
          gi_wp2
          exact ⟨hK2.from _, hP2, ⟨⟨by rw [HEN.out]; exact bN2, by rw [HLS.out]; exact bL2⟩, bR2, bE2⟩, HSN.out, hB2⟩
  case done =>
    rintro D ys W hD rfl ⟨⟨⟨bN1, bL1⟩, bR1, bE1⟩, her, hB1⟩ hK
    have cN := bN1.cell
    have cR := bR1.cell
    have fR := bR1.frozen
    have cE := bE1.cell
    have fE := bE1.frozen
    have HER := Lib.hid her
    clear her
    gi_wp2
    have hKO : KeepsOthers W ((W.setCell ⟨w.heap.size, 0, none⟩ (.int .i64 (endOf 0 (plc l)))).setCell ⟨w.heap.size + 1, 0, none⟩ (.int .i64 0)) := (KeepsOthers.setCell _ _ _).trans (KeepsOthers.setCell _ _ _)
    have hK' := hKO.same D _ hK rfl
    refine ⟨by simp, .inl ⟨_, _, rfl, run_takeDeferred hK', ?_⟩⟩
    have c1 := cell_kept (((bR1.set (.int .i64 (endOf 0 (plc l)))).other (show w.heap.size ≠ w.heap.size + 1 by omega) (.int .i64 0)).cell) (grownBy_putObj' _ D (.deferred none)) (fun r e => by cases e; exact ⟨_, hK', rfl⟩)
    have c2 := cell_kept (((bE1.other (show w.heap.size + 1 ≠ w.heap.size by omega) (.int .i64 (endOf 0 (plc l)))).set (.int .i64 0)).cell) (grownBy_putObj' _ D (.deferred none)) (fun r e => by cases e; exact ⟨_, hK', rfl⟩)
    refine ⟨.tuple #[.int .i64 (endOf 0 (plc l)), .int .i64 0], ?_, by rw [szR, if_pos HER.out]; rfl, ((hB1.setCell (p := ⟨w.heap.size, 0, none⟩) (Nat.le_refl _) _).setCell (p := ⟨w.heap.size + 1, 0, none⟩) (by simp) _).trans (belowK_b (w := w) (Nat.le_refl _) _ D _ _ (by omega) hK' rfl rfl)⟩
    simp [results, Try.f22, go_sem, c1, c2]
  case stop =>
    rintro D c pre W hD hpre ⟨⟨rfl, hne⟩, ⟨bR1, bE1⟩, hB1⟩ hK
    obtain ⟨post, hpost⟩ := hpre
    have HER := Lib.hid (show er 0 (plc l) = er 0 pre by rw [← hpost, er_append, if_neg hne])
    have HNE := Lib.hid hne
    clear hne hpost
    gi_wp2
    refine ⟨by simp, .inl ⟨_, _, rfl, run_takeDeferred hK, ?_⟩⟩
    have c1 := cell_kept bR1.cell (grownBy_putObj' _ D (.deferred none)) (fun r e => by cases e; exact ⟨_, hK, rfl⟩)
    have c2 := cell_kept bE1.cell (grownBy_putObj' _ D (.deferred none)) (fun r e => by cases e; exact ⟨_, hK, rfl⟩)
    refine ⟨.tuple #[.int .i64 0, .int .i64 (er 0 pre : Nat)], ?_, by rw [szR, if_neg (by rw [HER.out]; exact HNE.out), HER.out], hB1.trans (belowK_b (w := w) (Nat.le_refl _) W D _ _ (by omega) hK rfl rfl)⟩
    simp [results, Try.f22, go_sem, c1, c2]
end Go.Proofs.Ythmlafoceacliab
