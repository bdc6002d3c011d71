/- runs.sized, runs.Check, runs.At. -/
import Derived.Test.YthmlafoceacliabRF3
import Derived.Test.YthmlafoceacliabRF4
namespace Go.Proofs.Ythmlafoceacliab
open Go.RowKit Go.Shelf
attribute [local go_sem] Oper.semAt_some
set_option linter.unusedVariables false

def sizedR (l : List R.Run) : Int × Nat := if R.chk l = 0 then (R.sumR l, 0) else (0, R.chk l)
theorem szR_eq (l : List R.Run) : szR l = sizedR l := by
  unfold szR sizedR
  rw [er_plc]
  by_cases h : R.chk l = 0
  · rw [if_pos h, if_pos h, end_plc l h]
  · rw [if_neg h, if_neg h]
theorem sized_any (a : Option Addr) (c : Nat) (l : List R.Run) (w : World) (hl : l.length ≤ maxLen) (hu : Runs w w.heap.size a l) :
    Calls Try.prog 22 #[.slice a l.length c] w (SizedPost (sizedR l) w) := by
  rw [← szR_eq]
  exact (callsIn_wide (n := 3)).1 (sized_in Fence.wide 3 trivial trivial trivial rfl (by omega) a c l w hl hu)

set_option maxHeartbeats 400000 in
theorem check_any (a : Option Addr) (c : Nat) (l : List R.Run) (w : World) (hl : l.length ≤ maxLen) (hu : Runs w w.heap.size a l) :
    Calls Try.prog 12 #[.slice a l.length c] w (ErrPost (R.chk l) w) := by
  have hs := sized_any a c l w hl hu
  have he : (sizedR l).2 = R.chk l := by
    unfold sizedR
    by_cases h : R.chk l = 0
    · rw [if_pos h, h]
    · rw [if_neg h]
  generalize sizedR l = r at *
  obtain ⟨r1, r2⟩ := r
  simp only at he
  subst he
  have HS := Lib.hid hs
  clear hs
  go_enter Try.func12, Try.ntmps12
  go_wp2_with fail
  refine (HS.out).mono ?_
  rintro e w1 ⟨rfl, hb1⟩
  go_wp2_with fail
  go_ret
  exact ⟨rfl, hb1⟩

def TwoU (r : Nat × Nat) (w : World) (e : Ending) (w' : World) : Prop := e = .returned (.tuple #[.int .u64 (r.1 : Int), .int .i64 (r.2 : Int)]) ∧ Below w.heap.size w w'
def atR (l : List R.Run) (p : Int) : Nat × Nat := if R.chk l ≠ 0 then (0, R.chk l) else if p < 0 ∨ ((R.ex l).length : Int) ≤ p then (0, 3) else ((R.ex l).getD p.toNat 0, 0)

theorem three_boxes (w : World) (p : Int) :
    Boxed (((w.alloc (.cells #[.int .i64 p] 3)).alloc (.cells #[.int .u64 0] 34)).alloc (.cells #[.int .i64 0] 24)) w.heap.size 3 (.int .i64 p) ∧
    Boxed (((w.alloc (.cells #[.int .i64 p] 3)).alloc (.cells #[.int .u64 0] 34)).alloc (.cells #[.int .i64 0] 24)) (w.heap.size + 1) 34 (.int .u64 0) ∧
    Boxed (((w.alloc (.cells #[.int .i64 p] 3)).alloc (.cells #[.int .u64 0] 34)).alloc (.cells #[.int .i64 0] 24)) (w.heap.size + 1 + 1) 24 (.int .i64 0) ∧
    Below w.heap.size w (((w.alloc (.cells #[.int .i64 p] 3)).alloc (.cells #[.int .u64 0] 34)).alloc (.cells #[.int .i64 0] 24)) ∧
    (((w.alloc (.cells #[.int .i64 p] 3)).alloc (.cells #[.int .u64 0] 34)).alloc (.cells #[.int .i64 0] 24)).heap.size = w.heap.size + 3 := by
  have b1 := (Boxed.new (w.alloc (.cells #[.int .i64 p] 3)) 34 (.int .u64 0)).alloc (.cells #[.int .i64 0] 24)
  have b2 := Boxed.new ((w.alloc (.cells #[.int .i64 p] 3)).alloc (.cells #[.int .u64 0] 34)) 24 (.int .i64 0)
  simp only [World.size_alloc] at b1 b2
  exact ⟨((Boxed.new w 3 (.int .i64 p)).alloc _).alloc _, b1, b2, (((Below.refl _ w).alloc (Nat.le_refl _) _).alloc (by simp) _).alloc (by simp; omega) _, by simp⟩
theorem box_next {W W' : World} {B : Nat} {t : TypeId} {v : Value} (h : Boxed W B t v) (hb : Below W.heap.size W W') : Boxed W' B t v := (hb.block B h.lt).trans h

set_option maxRecDepth 100000 in
set_option maxHeartbeats 1000000 in
theorem at_bad (a : Option Addr) (c : Nat) (l : List R.Run) (p : Int) (w : World) (hl : l.length ≤ maxLen) (hu : Runs w w.heap.size a l) (hc : R.chk l ≠ 0 ∨ p < 0) :
    Calls Try.prog 15 #[.slice a l.length c, .int .i64 p] w (TwoU (atR l p) w) := by
  obtain ⟨b0, b1, b2, hB, hsz⟩ := three_boxes w p
  have hck := check_any a c l _ hl (hu.next hB)
  by_cases h0 : R.chk l = 0
  · have hp : p < 0 := by omega
    have HR := Lib.hid (show atR l p = (0, 3) by rw [atR, if_neg (by omega), if_pos (Or.inl hp)])
    rw [h0] at hck
    have HCK := Lib.hid hck
    have g1 : decide (p < 0) = true := by simp; omega
    clear hck h0 hc
    go_enter Try.func15, Try.ntmps15
    go_wp2_with fail
    refine (HCK.out).mono ?_
    rintro e w1 ⟨rfl, hb1⟩
    have b0' := box_next b0 hb1
    have b1' := box_next b1 hb1
    have b2' := box_next b2 hb1
    have c0 := b0'.cell
    have c1 := b1'.cell
    have f1 := b1'.frozen
    have c2 := b2'.cell
    have f2 := b2'.frozen
    go_wp2_with fail
    have e1 := ((b1'.set (.int .u64 0)).other (show w.heap.size + 1 ≠ w.heap.size + 1 + 1 by omega) (.int .i64 3)).cell
    have e2 := ((b2'.other (show w.heap.size + 1 + 1 ≠ w.heap.size + 1 by omega) (.int .u64 0)).set (.int .i64 3)).cell
    refine bodyPost_ret (v := .tuple #[.int .u64 0, .int .i64 3]) (by simp [results, Try.results15, go_sem, e1, e2]) rfl ⟨by rw [HR.out]; rfl, ?_⟩
    exact ((hB.trans (hb1.mono (by omega))).setCell (p := ⟨w.heap.size + 1, 0, none⟩) (by simp) _).setCell (p := ⟨w.heap.size + 1 + 1, 0, none⟩) (by simp; omega) _
  · have HR := Lib.hid (show atR l p = (0, R.chk l) by rw [atR, if_pos h0])
    have g1 : ((R.chk l : Int) != 0) = true := by rw [bne_iff_ne]; omega
    generalize R.chk l = er at *
    have HCK := Lib.hid hck
    clear hck h0 hc
    go_enter Try.func15, Try.ntmps15
    go_wp2_with fail
    refine (HCK.out).mono ?_
    rintro e w1 ⟨rfl, hb1⟩
    have b0' := box_next b0 hb1
    have b1' := box_next b1 hb1
    have b2' := box_next b2 hb1
    have c1 := b1'.cell
    have f1 := b1'.frozen
    have c2 := b2'.cell
    have f2 := b2'.frozen
    go_wp2_with fail
    have e1 := ((b1'.set (.int .u64 0)).other (show w.heap.size + 1 ≠ w.heap.size + 1 + 1 by omega) (.int .i64 (er : Int))).cell
    have e2 := ((b2'.other (show w.heap.size + 1 + 1 ≠ w.heap.size + 1 by omega) (.int .u64 0)).set (.int .i64 (er : Int))).cell
    refine bodyPost_ret (v := .tuple #[.int .u64 0, .int .i64 (er : Int)]) (by simp [results, Try.results15, go_sem, e1, e2]) rfl ⟨by rw [HR.out]; rfl, ?_⟩
    exact ((hB.trans (hb1.mono (by omega))).setCell (p := ⟨w.heap.size + 1, 0, none⟩) (by simp) _).setCell (p := ⟨w.heap.size + 1 + 1, 0, none⟩) (by simp; omega) _

set_option maxRecDepth 100000 in
set_option maxHeartbeats 2000000 in
theorem at_ok (a : Option Addr) (cap : Nat) (l : List R.Run) (k : Nat) (w : World) (hl : l.length ≤ maxLen) (hu : Runs w w.heap.size a l) (hk : k ≤ 9223372036854775807) (hc : R.chk l = 0) :
    Calls Try.prog 15 #[.slice a l.length cap, .int .i64 k] w (TwoU (match atF k (plc l) with | some y => (y, 0) | none => (0, 3)) w) := by
  obtain ⟨b0, b1, b2, hB, hsz⟩ := three_boxes w k
  have hck := check_any a cap l _ hl (hu.next hB)
  rw [hc] at hck
  have HCK := Lib.hid hck
  clear hck hc
  generalize hres : (match atF k (plc l) with | some y => (y, 0) | none => (0, 3) : Nat × Nat) = res
  have HRES := Lib.hid hres
  clear hres
  have g0 : decide ((k : Int) < 0) = false := by simp
  refine (callsIn_wide (n := 6)).1 ?_
  refine callsIn_of_wp_marks Try.func15 rfl trivial ?_ rfl
  simp only [Try.ntmps15, List.size_toArray, List.length_cons, List.length_nil, Nat.reduceAdd, Nat.reduceSub, Array.replicate_succ, Array.replicate_zero, List.push_toArray, List.append_toArray, List.nil_append, List.cons_append]
  gi_wp2_with (first
    | (refine ⟨trivial, ?_⟩; gi_at_call 12; refine (callsIn_wide.2 HCK.out).mono ?_; rintro e w1 ⟨rfl, hb1⟩; have b0' := box_next b0 hb1; have c0' := b0'.cell)
    | (refine ⟨trivial, ?_⟩; gi_at_call 23; refine (placed_in Fence.wide _ trivial rfl _ _ _ _).mono ?_; rintro e w2 ⟨rfl, rfl⟩))
  have hsz1 : w.heap.size + 3 ≤ w1.heap.size := by have := hb1.size; omega
  have hBw1 : Below w.heap.size w w1 := hB.trans (hb1.mono (by omega))
  have bS := Boxed.new w1 23 (.slice a l.length cap)
  have d0 := (box_next b0 hb1).alloc (.cells #[.slice a l.length cap] 23)
  have d1 := (box_next b1 hb1).alloc (.cells #[.slice a l.length cap] 23)
  have d2 := (box_next b2 hb1).alloc (.cells #[.slice a l.length cap] 23)
  have hB0 : Below w.heap.size w (w1.alloc (.cells #[.slice a l.length cap] 23)) := hBw1.alloc (by omega) _
  have hszW : (w1.alloc (.cells #[.slice a l.length cap] 23)).heap.size = w1.heap.size + 1 := by simp
  obtain ⟨Bs, hBs⟩ : ∃ Bs, Bs = w1.heap.size := ⟨_, rfl⟩
  obtain ⟨W0, hW0⟩ : ∃ W0, w1.alloc (.cells #[.slice a l.length cap] 23) = W0 := ⟨_, rfl⟩
  rw [← hBs] at bS hszW ⊢
  rw [hW0] at bS d0 d1 d2 hB0 hszW ⊢
  have hBsw : w.heap.size + 3 ≤ Bs := by omega
  have hBsW : Bs < W0.heap.size := by omega
  clear hW0 b0' c0' b0 b1 b2 hb1 hB hsz hBw1 hBs hszW
  refine wpIn_rangeFunc_ownH rfl (by omega) (gf := 24) (lb := #[.pointer (some ⟨Bs, 0, none⟩)]) rfl trivial (enters_of Try.func24 (by kernel_rfl) rfl)
    (placed_stops (fun x : PX => x) (plc l) Fence.wide _ trivial rfl (by omega) Bs w.heap.size cap a l hl (by simp) W0 (by omega) (by omega) bS.cell (hu.below hB0)) (fun h k => h.trans k) (fun W l o o' h1 h2 h3 _ => Kp.put W l o o' (by omega) h2 h3) (Below.refl _ _) (fun _ => rfl)
    (fun pre W => ((Boxed W w.heap.size 3 (.int .i64 k) ∧ Boxed W (w.heap.size + 1) 34 (.int .u64 0)) ∧ Boxed W (w.heap.size + 1 + 1) 24 (.int .i64 0)) ∧ (atF k pre = none ∧ Below w.heap.size w W))
    (fun c pre W => (c = .ret ∧ ∃ y, atF k pre = some y) ∧ ((Boxed W (w.heap.size + 1) 34 (.int .u64 (((atF k pre).getD 0 : Nat) : Int)) ∧ Boxed W (w.heap.size + 1 + 1) 24 (.int .i64 0)) ∧ Below w.heap.size w W))
    (OwnFrom.and (OwnFrom.and (OwnFrom.and (Own.from (boxed_own _ _ _) _) (Own.from (boxed_own _ _ _) _)) (Own.from (boxed_own _ _ _) _)) (OwnFrom.and (ownFrom_pure _ _) (ownFrom_below (Nat.le_refl _) (by omega))))
    (fun c => OwnFrom.and (ownFrom_pure _ _) (OwnFrom.and (OwnFrom.and (Own.from (boxed_own _ _ _) _) (Own.from (boxed_own _ _ _) _)) (ownFrom_below (Nat.le_refl _) (by omega))))
    ⟨⟨⟨d0, d1⟩, d2⟩, rfl, hB0⟩
    (fun x a' W => ∃ Bx, w.heap.size + 1 + 1 < Bx ∧ Box2 W Bx (x.2.1 : Int) x.2.2 ∧ a' = { tmps := #[.slice a l.length cap, .int .i64 k, undef, .pointer (some ⟨w.heap.size, 0, none⟩), .pointer (some ⟨w.heap.size + 1, 0, none⟩), .pointer (some ⟨w.heap.size + 1 + 1, 0, none⟩), .int .i64 0, .int .i64 x.1, .pointer (some ⟨Bx, 0, none⟩), .slice a l.length cap, .int .i64 0, .int .i64 0, .bool false, undef, .int .i64 k, .bool false, .slice a l.length cap, .func (.func 24) #[] #[.pointer (some ⟨Bs, 0, none⟩)], .int .i64 x.1, .agg #[.int .u64 (x.2.1 : Int), .int .i64 x.2.2], undef, undef, undef, undef, undef, undef, undef, undef], defers := [] })
    (fun x a' _ X Y row hs hg hr => by obtain ⟨Bx, k1, k2, k3⟩ := hs; exact ⟨Bx, k1, (hg.block Bx k2.lt (fun e => by obtain ⟨_, o, ho, hc⟩ := hr Bx e.symm; unfold Box2 at k2; rw [k2] at ho; cases ho; cases hc)).trans k2, k3⟩)
    ?assign ?body ?done ?stop
  case assign =>
    rintro lp pre x W K ⟨⟨⟨b0, b1⟩, b2⟩, her, hB1⟩ hK
    obtain ⟨f, y, m⟩ := x
    have hs1 := hB1.size
    dsimp only [pxv]
    gi_wp2
    exact hK _ _ ((KeepsOthers.alloc _ _).from _) (Kp.alloc hs1 _) ⟨⟨⟨b0.alloc _, b1.alloc _⟩, b2.alloc _⟩, her, hB1.alloc hs1 _⟩ ⟨W.heap.size, b2.lt, Box2.new W _ _, rfl⟩
  case body =>
    rintro lp pre x a' W hlp ⟨r, hr⟩ ⟨⟨⟨b0, b1⟩, b2⟩, her, hB1⟩ ⟨Bx, hBx, bX, rfl⟩ hlt
    obtain ⟨f, y, m⟩ := x
    simp only at bX
    have hap : atF k (pre ++ [(f, y, m)]) = if (k : Int) < wrap64 (f + m) then some y else none := by
      rw [atF_append, her]; simp [atF]
    have c0 := b0.cell
    have c1 := b1.cell
    have f1 := b1.frozen
    have c2 := b2.cell
    have f2 := b2.frozen
    have x0 := bX.c0
    have x1 := bX.c1
    clear her hr
    by_cases h : (k : Int) < wrap64 (f + m)
    · rw [if_pos h] at hap
      have HAP := Lib.hid hap
      have g1 : decide ((k : Int) < wrap64 (f + m)) = true := by simp; omega
      clear hap h
      gi_wp2
      exact ⟨((KeepsOthers.setCell _ _ _).trans (KeepsOthers.setCell _ _ _)).from _, ⟨rfl, y, HAP.out⟩, ⟨by rw [HAP.out]; exact (b1.set _).other (show w.heap.size + 1 ≠ w.heap.size + 1 + 1 by omega) _, (b2.other (show w.heap.size + 1 + 1 ≠ w.heap.size + 1 by omega) _).set _⟩, (hB1.setCell (p := ⟨w.heap.size + 1, 0, none⟩) (by simp) _).setCell (p := ⟨w.heap.size + 1 + 1, 0, none⟩) (by simp; omega) _⟩
    · rw [if_neg h] at hap
      have HAP := Lib.hid hap
      have g1 : decide ((k : Int) < wrap64 (f + m)) = false := by simp; omega
      clear hap h
      gi_wp2
      exact ⟨KeepsFrom.refl _ _, Kp.refl _ _ _, ⟨⟨b0, b1⟩, b2⟩, HAP.out, hB1⟩
  case done =>
    rintro D ys W hD rfl ⟨⟨⟨b0, b1⟩, b2⟩, her, hB1⟩ hK
    have c1 := b1.cell
    have f1 := b1.frozen
    have c2 := b2.cell
    have f2 := b2.frozen
    have HER := Lib.hid her
    clear her
    gi_wp2
    have hKO : KeepsOthers W ((W.setCell ⟨w.heap.size + 1, 0, none⟩ (.int .u64 0)).setCell ⟨w.heap.size + 1 + 1, 0, none⟩ (.int .i64 3)) := (KeepsOthers.setCell _ _ _).trans (KeepsOthers.setCell _ _ _)
    have hK' := hKO.same D _ hK rfl
    refine ⟨by simp, .inl ⟨_, _, rfl, run_takeDeferred hK', ?_⟩⟩
    have e1 := cell_kept (((b1.set (.int .u64 0)).other (show w.heap.size + 1 ≠ w.heap.size + 1 + 1 by omega) (.int .i64 3)).cell) (grownBy_putObj' _ D (.deferred none)) (fun r e => by cases e; exact ⟨_, hK', rfl⟩)
    have e2 := cell_kept (((b2.other (show w.heap.size + 1 + 1 ≠ w.heap.size + 1 by omega) (.int .u64 0)).set (.int .i64 3)).cell) (grownBy_putObj' _ D (.deferred none)) (fun r e => by cases e; exact ⟨_, hK', rfl⟩)
    refine ⟨.tuple #[.int .u64 0, .int .i64 3], ?_, by rw [← HRES.out, HER.out]; rfl, ((hB1.setCell (p := ⟨w.heap.size + 1, 0, none⟩) (by simp) _).setCell (p := ⟨w.heap.size + 1 + 1, 0, none⟩) (by simp; omega) _).trans (belowK_b (w := w) (Nat.le_refl _) _ D _ _ (by omega) hK' rfl rfl)⟩
    simp [results, Try.f15, go_sem, e1, e2]
  case stop =>
    rintro D c pre W hD hpre ⟨⟨rfl, y, hy⟩, ⟨b1, b2⟩, hB1⟩ hK
    obtain ⟨post, hpost⟩ := hpre
    have HER := Lib.hid (show res = (y, 0) by rw [← HRES.out, ← hpost, atF_append, hy]; rfl)
    rw [hy] at b1
    clear hpost hy
    gi_wp2
    refine ⟨by simp, .inl ⟨_, _, rfl, run_takeDeferred hK, ?_⟩⟩
    have e1 := cell_kept b1.cell (grownBy_putObj' _ D (.deferred none)) (fun r e => by cases e; exact ⟨_, hK, rfl⟩)
    have e2 := cell_kept b2.cell (grownBy_putObj' _ D (.deferred none)) (fun r e => by cases e; exact ⟨_, hK, rfl⟩)
    refine ⟨.tuple #[.int .u64 (y : Int), .int .i64 0], ?_, by rw [HER.out]; rfl, hB1.trans (belowK_b (w := w) (Nat.le_refl _) W D _ _ (by omega) hK rfl rfl)⟩
    simp at e1
    simp [results, Try.f15, go_sem, e1, e2]

theorem at_any (a : Option Addr) (c : Nat) (l : List R.Run) (p : Int) (w : World) (hl : l.length ≤ maxLen) (hu : Runs w w.heap.size a l) (hp : p ≤ 9223372036854775807) :
    Calls Try.prog 15 #[.slice a l.length c, .int .i64 p] w (TwoU (atR l p) w) := by
  by_cases h : R.chk l ≠ 0 ∨ p < 0
  · exact at_bad a c l p w hl hu h
  · have hc : R.chk l = 0 := by omega
    obtain ⟨k, rfl⟩ : ∃ k : Nat, p = k := ⟨p.toNat, by omega⟩
    have := at_ok a c l k w hl hu (by omega) hc
    obtain ⟨g, hs, hb⟩ := R.chk_facts l hc
    have hx := (R.chk_ex_length l hc).1
    have ha := at_plc l 0 k g (by omega) (by omega)
    have e0 : ((0 : Nat) : Int) = 0 := rfl
    rw [e0, ← plc_eq] at ha
    rw [ha] at this
    have er : (match (if (k : Int) < 0 + R.sumR l then some ((R.ex l).getD (k - 0) 0) else none : Option Nat) with | some y => (y, 0) | none => (0, 3) : Nat × Nat) = atR l k := by
      by_cases h2 : (k : Int) < 0 + R.sumR l
      · rw [if_pos h2, atR, if_neg (by omega), if_neg (by omega)]; simp
      · rw [if_neg h2, atR, if_neg (by omega), if_pos (by omega)]
    rw [er] at this
    exact this
end Go.Proofs.Ythmlafoceacliab
