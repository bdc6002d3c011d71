/- The walk of runs.Expand. -/
import Derived.Test.YthmlafoceacliabRF5
import Derived.Test.YthmlafoceacliabUBlk
namespace Go.Proofs.Ythmlafoceacliab
open Go.RowKit Go.Shelf
attribute [local go_sem] Oper.semAt_some
set_option linter.unusedVariables false

theorem wpIn_made {F : Fence} {n : Nat} {w : World} {ops : Array Oper} {rest : List Oper} {o : Oper} {a : Act} {Q : Exit → Act → World → Prop} (hgd : o.guard = none) (l c : Operand) (hop : o.op = Op.makeSlice 22 l c)
    (T : Nat) (hl : a.eval l = .int .i64 (T : Int)) (hc : a.eval c = .int .i64 (T : Int)) (hT : T ≤ 64)
    (hK : ∀ w', UBlk w' w.heap.size (List.replicate T 0) → w.grownBy w' none → wpListIn F n Try.prog ops Q rest (a.put o.dst (.slice (some ⟨w.heap.size, 0, none⟩) T T)) w') : wpListIn F n Try.prog ops Q (o :: rest) a w := by
  obtain ⟨i0, hi, hz0, hz1, hz2⟩ := info_parts info_u64
  obtain ⟨w', hrun, r1, r2⟩ := run_make_full (P := Try.prog) w w.heap.size 22 34 i0 (.int .u64 0) 1 Try.underlying22 hi hz0 hz1 .i64 .i64 T (by rw [hz2]; omega) (by unfold maxLen; omega) (Nat.le_refl _)
  refine wpListIn_plain hgd fun K hK' => ?_
  unfold Oper.wpIn
  refine ⟨by simp [Oper.about, hop], ?_⟩
  rw [Oper.semAt_plain F _ _ (by rw [hop]; intro c hc'; cases hc')]
  simp [execOp, hop, hl, hc, hrun, Result.andThen]
  exact hK' _ _ (hK w' (made_ublk r1) r2)

theorem ublk_own {β : Type} (B g : Nat) (f : β → List Nat) : OwnFrom B (fun (s : β) W => UBlk W g (f s)) := fun s X Y row hs hg hr => by
  have h : X.heap[g]? = _ := hs
  exact (hg.block g hs.lt (fun e => by obtain ⟨_, o, ho, hc⟩ := hr g e.symm; rw [h] at ho; cases ho; cases hc)).trans h

abbrev PT (T : Nat) := { x : PX // 0 ≤ x.1 ∧ 0 ≤ x.2.2 ∧ x.1 + x.2.2 ≤ (T : Int) }

def expR (l : List R.Run) : List Nat × Nat := if R.chk l = 0 then (R.ex l, 0) else ([], R.chk l)

set_option maxHeartbeats 400000 in
theorem expand_bad (a : Option Addr) (c : Nat) (l : List R.Run) (w : World) (hl : l.length ≤ maxLen) (hu : Runs w w.heap.size a l) (hc : R.chk l ≠ 0) :
    Calls Try.prog 14 #[.slice a l.length c] w (AllPost ([], R.chk l) w) := by
  have hs := sized_any a c l w hl hu
  rw [sizedR, if_neg hc] at hs
  have g1 : ((R.chk l : Int) != 0) = true := by rw [bne_iff_ne]; omega
  generalize R.chk l = er at *
  have HS := Lib.hid hs
  clear hs hc
  go_enter Try.func14, Try.ntmps14
  go_wp2_with fail
  refine (HS.out).mono ?_
  rintro e w1 ⟨rfl, hb1⟩
  go_wp2_with fail
  go_ret2
  exact ⟨none, 0, rfl, Nums.nil _ _ _, hb1⟩

set_option maxRecDepth 100000 in
set_option maxHeartbeats 2000000 in
theorem expand_ok (a : Option Addr) (cap : Nat) (l : List R.Run) (w : World) (hl : l.length ≤ maxLen) (hu : Runs w w.heap.size a l) (hc : R.chk l = 0) :
    Calls Try.prog 14 #[.slice a l.length cap] w (AllPost (R.ex l, 0) w) := by
  have hs := sized_any a cap l w hl hu
  rw [sizedR, if_pos hc] at hs
  obtain ⟨hg, hs64, hb⟩ := R.chk_facts l hc
  have hn := R.sum_nonneg l hg
  obtain ⟨T, hT⟩ : ∃ T : Nat, R.sumR l = T := ⟨(R.sumR l).toNat, by omega⟩
  rw [hT] at hs
  have hT64 : T ≤ 64 := by omega
  have hout := out_plc l [] hg (by simp; omega)
  rw [hT] at hout
  simp only [List.nil_append, List.length_nil, Int.toNat_natCast] at hout
  have e0 : ((0 : Nat) : Int) = 0 := rfl
  rw [e0, ← plc_eq] at hout
  have hbd := plc_bounds l 0 hg (by omega)
  rw [e0, ← plc_eq, hT] at hbd
  have hxl : (R.ex l).length = T := by have := (R.chk_ex_length l hc).1; omega
  have HXS := Lib.hid (show ∃ xs : List (PT T), xs.map (fun x => x.1) = plc l from
    ⟨(plc l).attach.map (fun x => ⟨x.1, by have := hbd x.1 x.2; omega⟩), by rw [List.map_map]; exact List.attach_map_subtype_val (plc l)⟩)
  have HOUT := Lib.hid hout
  have HXL := Lib.hid hxl
  have HS := Lib.hid hs
  generalize R.ex l = zs at *
  clear hs hout hbd hb hc hT hn hs64 hg hxl
  obtain ⟨xs, hxs⟩ := HXS.out
  have HX := Lib.hid hxs
  clear HXS hxs
  refine (callsIn_wide (n := 6)).1 ?_
  refine callsIn_of_wp_marks Try.func14 rfl trivial ?_ rfl
  simp only [Try.ntmps14, List.size_toArray, List.length_cons, List.length_nil, Nat.reduceAdd, Nat.reduceSub, Array.replicate_succ, Array.replicate_zero, List.push_toArray, List.append_toArray, List.nil_append, List.cons_append]
  gi_wp2_with (first
    | (refine ⟨trivial, ?_⟩; gi_at_call 22; refine (callsIn_wide.2 HS.out).mono ?_; rintro e w1 ⟨rfl, hb1⟩)
    | (gi_at_make; refine wpIn_made rfl (.tmp 18) (.tmp 18) rfl T rfl rfl hT64 ?_; intro w2 hblk2 hgrow2)
    | (refine ⟨trivial, ?_⟩; gi_at_call 23; refine (placed_in Fence.wide _ trivial rfl _ _ _ _).mono ?_; rintro e w4 ⟨rfl, rfl⟩))
  have hsz1 := hb1.size
  have hB2 : Below w1.heap.size w1 w2 := (Below.refl _ _).grown hgrow2 (Nat.le_refl _) (fun k hk => by cases hk)
  have hBw2 : Below w.heap.size w w2 := below_then hb1 hB2
  have hg2 := hblk2.lt
  have bO := (Boxed.new w2 22 (.slice (some ⟨w1.heap.size, 0, none⟩) T T)).alloc (.cells #[.slice a l.length cap] 23)
  have bS := Boxed.new (w2.alloc (.cells #[.slice (some ⟨w1.heap.size, 0, none⟩) T T] 22)) 23 (.slice a l.length cap)
  rw [World.size_alloc] at bS
  have hblk := (hblk2.alloc (.cells #[.slice (some ⟨w1.heap.size, 0, none⟩) T T] 22)).alloc (.cells #[.slice a l.length cap] 23)
  have hB0 : Below w.heap.size w ((w2.alloc (.cells #[.slice (some ⟨w1.heap.size, 0, none⟩) T T] 22)).alloc (.cells #[.slice a l.length cap] 23)) := (hBw2.alloc hBw2.size _).alloc (by have := hBw2.size; simp; omega) _
  have hszW : ((w2.alloc (.cells #[.slice (some ⟨w1.heap.size, 0, none⟩) T T] 22)).alloc (.cells #[.slice a l.length cap] 23)).heap.size = w2.heap.size + 2 := by simp
  obtain ⟨g, hge⟩ : ∃ g, g = w1.heap.size := ⟨_, rfl⟩
  obtain ⟨Bo, hBo⟩ : ∃ Bo, Bo = w2.heap.size := ⟨_, rfl⟩
  rw [← hge] at hblk bO bS hB0 hszW hg2 ⊢
  rw [← hBo] at bO bS hszW hg2 ⊢
  obtain ⟨W0, hW0⟩ : ∃ W0, (w2.alloc (.cells #[.slice (some ⟨g, 0, none⟩) T T] 22)).alloc (.cells #[.slice a l.length cap] 23) = W0 := ⟨_, rfl⟩
  rw [hW0] at hblk bO bS hB0 hszW ⊢
  have hgw : w.heap.size ≤ g := by omega
  have hBow : w.heap.size ≤ Bo := by omega
  have hW0s : Bo + 1 < W0.heap.size := by omega
  clear hW0 hge hBo hszW hblk2 hgrow2 hB2 hBw2 hb1 hsz1
  refine wpIn_rangeFunc_ownH rfl (by omega) (gf := 24) (lb := #[.pointer (some ⟨Bo + 1, 0, none⟩)]) rfl trivial (enters_of Try.func24 (by kernel_rfl) rfl)
    (placed_stops (fun x : PT T => x.1) xs Fence.wide _ trivial rfl (by omega) (Bo + 1) w.heap.size cap a l hl HX.out W0 (by omega) (by omega) bS.cell (hu.below hB0)) (fun h k => h.trans k) (fun W l o o' h1 h2 h3 _ => Kp.put W l o o' (by omega) h2 h3) (Below.refl _ _) (fun _ => rfl)
    (fun pre W => (Boxed W Bo 22 (.slice (some ⟨g, 0, none⟩) T T) ∧ UBlk W g (outF (List.replicate T 0) (pre.map fun x => x.1))) ∧ Below w.heap.size w W)
    (fun _ _ _ => False)
    (OwnFrom.and (OwnFrom.and (Own.from (boxed_own _ _ _) _) (ublk_own _ _ _)) (ownFrom_below (Nat.le_refl _) (by omega)))
    (fun _ _ _ _ _ hs _ _ => hs)
    ⟨⟨bO, hblk⟩, hB0⟩
    (fun x a' W => ∃ Bx, Box2 W Bx (x.1.2.1 : Int) x.1.2.2 ∧ a' = { tmps := #[.slice a l.length cap, undef, .slice none 0 0, .int .i64 0, .int .i64 T, .int .i64 0, .pointer (some ⟨Bo, 0, none⟩), .int .i64 x.1.1, .pointer (some ⟨Bx, 0, none⟩), undef, .tuple #[.int .i64 T, .int .i64 0], .slice a l.length cap, .tuple #[.int .i64 T, .int .i64 0], .int .i64 T, .int .i64 0, .int .i64 0, .bool false, undef, .int .i64 T, .slice (some ⟨g, 0, none⟩) T T, .slice a l.length cap, .func (.func 24) #[] #[.pointer (some ⟨Bo + 1, 0, none⟩)], .int .i64 x.1.1, .agg #[.int .u64 (x.1.2.1 : Int), .int .i64 x.1.2.2], undef, undef, undef, undef, undef, undef, undef, undef, undef, undef, undef, undef, undef, undef], defers := [] })
    (fun x a' _ X Y row hs hg hr => by obtain ⟨Bx, k2, k3⟩ := hs; exact ⟨Bx, (hg.block Bx k2.lt (fun e => by obtain ⟨_, o, ho, hc⟩ := hr Bx e.symm; unfold Box2 at k2; rw [k2] at ho; cases ho; cases hc)).trans k2, k3⟩)
    ?assign ?body ?done ?stop
  case assign =>
    rintro lp pre x W K ⟨⟨b0, hbl⟩, hB1⟩ hK
    obtain ⟨⟨f, y, m⟩, hx⟩ := x
    have hs1 := hB1.size
    dsimp only [pxv]
    gi_wp2
    exact hK _ _ ((KeepsOthers.alloc _ _).from _) (Kp.alloc hs1 _) ⟨⟨b0.alloc _, hbl.alloc _⟩, hB1.alloc hs1 _⟩ ⟨W.heap.size, Box2.new W _ _, rfl⟩
  case body =>
    rintro lp pre x a' W hlp ⟨r, hr⟩ ⟨⟨b0, hbl⟩, hB1⟩ ⟨Bx, bX, rfl⟩ hlt
    obtain ⟨⟨f, y, m⟩, hx⟩ := x
    simp only at bX hx
    obtain ⟨f, rfl⟩ : ∃ n : Nat, f = n := ⟨f.toNat, by omega⟩
    obtain ⟨m, rfl⟩ : ∃ n : Nat, m = n := ⟨m.toNat, by omega⟩
    have hfm : f + m ≤ T := by omega
    have HSN := Lib.hid (show outF (List.replicate T 0) ((pre ++ [(⟨((f : Int), y, (m : Int)), hx⟩ : PT T)]).map fun x => x.1) = wrN (outF (List.replicate T 0) (pre.map fun x => x.1)) f y m by
      rw [List.map_append, List.map_cons, List.map_nil, outF_snoc]; simp)
    have hol : (outF (List.replicate T 0) (pre.map fun x => x.1)).length = T := by rw [outF_length]; simp
    generalize outF (List.replicate T 0) (pre.map fun x => x.1) = acc at *
    have HOL := Lib.hid (show ∀ t, (wrN acc f y t).length = T from fun t => by rw [wrN_length, hol])
    have x1 := bX.c1
    clear hr hol
    gi_wp2
    gi_loopw [9, 26] (fun _ i wr => ∃ t : Nat, t ≤ m ∧ i = .int .i64 t ∧ (Boxed wr Bo 22 (.slice (some ⟨g, 0, none⟩) T T) ∧ UBlk wr g (wrN acc f y t)) ∧ Box2 wr Bx (y : Int) m ∧ Below w.heap.size w wr ∧ KeepsOthers W wr ∧ Kp true w.heap.size W wr) (fun _ i _ => m - (intOf i).toNat)
    case atStart => exact ⟨0, by omega, rfl, ⟨b0, hbl⟩, bX, hB1, KeepsOthers.refl _, Kp.refl _ _ _⟩
    case round =>
      obtain ⟨t, ht, rfl, ⟨b2, hb2⟩, bX2, hB2, hK2, hP2⟩ := hrel
      by_cases htm : t < m
      · have cO := b2.cell
        have x0 := bX2.c0
        have hft : f + t < T := by omega
        have u1 := hb2.cell (f + t) (by rw [HOL.out t]; exact hft)
        have u2 := hb2.free (f + t)
        have hb3 : UBlk (wr.setCell ⟨g, f + t, none⟩ (.int .u64 (y : Int))) g (wrN acc f y (t + 1)) := hb2.put (f + t) y
        have hgr := Lib.grownBy_setCell wr g (f + t) (.int .u64 (y : Int))
        have hneO : g ≠ Bo := by
          intro e
          have h1 : wr.heap[g]? = _ := hb2
          have h2 : wr.heap[Bo]? = _ := b2
          rw [e, h2] at h1
          injection h1 with h1
          injection h1 with _ h1
          exact absurd h1 (by decide)
        have hneX : ∀ x m, ¬ Box2 wr g x m := by
          intro x m hb
          have h1 : wr.heap[g]? = _ := hb2
          unfold Box2 at hb
          rw [hb] at h1
          injection h1 with h1
          injection h1 with _ h1
          exact absurd h1 (by decide)
        have b3 : Boxed (wr.setCell ⟨g, f + t, none⟩ (.int .u64 (y : Int))) Bo 22 (.slice (some ⟨g, 0, none⟩) T T) := b2.kept hgr (fun e => hneO (by injection e with e; exact e.symm))
        have bX3 : Box2 (wr.setCell ⟨g, f + t, none⟩ (.int .u64 (y : Int))) Bx (y : Int) m := (hgr.block Bx bX2.lt (fun e => by injection e with e; exact hneX _ _ (e ▸ bX2))).trans bX2
        have hB3 : Below w.heap.size w (wr.setCell ⟨g, f + t, none⟩ (.int .u64 (y : Int))) := hB2.setCell (p := ⟨g, f + t, none⟩) hgw _
        have hK3 : KeepsOthers W (wr.setCell ⟨g, f + t, none⟩ (.int .u64 (y : Int))) := hK2.trans (KeepsOthers.setCell _ _ _)
        have hP3 : Kp true w.heap.size W (wr.setCell ⟨g, f + t, none⟩ (.int .u64 (y : Int))) := hP2.trans (Kp.grown hgr hB2.size (fun k hk => by cases hk; exact ⟨hgw, hneX⟩))
        generalize (wrN acc f y t).getD (f + t) 0 = oz at *
        clear hneX hneO hgr hP2 hK2
        gi_wp2
        go_roundw
        case rel => exact ⟨t + 1, by omega, by go_num, ⟨b3, hb3⟩, bX3, hB3, hK3, hP3⟩
        case measure => simp [intOf]; omega
      · obtain rfl : t = m := by omega
        gi_wp2
        exact ⟨hK2.from _, hP2, ⟨b2, by rw [HSN.out]; exact hb2⟩, hB2⟩
  case done =>
    rintro D ys W hD rfl ⟨⟨b0, hbl⟩, hB1⟩ hK
    rw [HX.out, HOUT.out] at hbl
    have cO := b0.cell
    have hr := UBlk.nums (show UBlk (W.putObj D (.deferred none)) g zs from (World.putObj_heap_other (fun e => by unfold UBlk at hbl; subst e; rw [hK] at hbl; cases hbl)).trans hbl)
    gi_wp2
    refine ⟨by simp, .inl ⟨_, _, rfl, run_takeDeferred hK, ?_⟩⟩
    refine ⟨.tuple #[.slice (some ⟨g, 0, none⟩) T T, .int .i64 0], by simp [results, Try.f14, go_sem], ⟨some ⟨g, 0, none⟩, T, by rw [HXL.out]; rfl, hr, hB1.trans (belowK_b (w := w) (Nat.le_refl _) W D _ _ (by omega) hK rfl rfl)⟩⟩
  case stop =>
    rintro D c pre W _ _ h _
    exact h.elim

theorem expand_any (a : Option Addr) (c : Nat) (l : List R.Run) (w : World) (hl : l.length ≤ maxLen) (hu : Runs w w.heap.size a l) :
    Calls Try.prog 14 #[.slice a l.length c] w (AllPost (expR l) w) := by
  unfold expR
  by_cases h : R.chk l = 0
  · rw [if_pos h]; exact expand_ok a c l w hl hu h
  · rw [if_neg h]; exact expand_bad a c l w hl hu h
end Go.Proofs.Ythmlafoceacliab
