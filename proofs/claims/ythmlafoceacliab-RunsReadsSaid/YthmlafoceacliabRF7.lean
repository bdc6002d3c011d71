/- The walk of runs.Joined. -/
import Derived.Test.YthmlafoceacliabRF5
import Derived.Test.YthmlafoceacliabRF8
namespace Go.Proofs.Ythmlafoceacliab
open Go.RowKit Go.Shelf
attribute [local go_sem] Oper.semAt_some
set_option linter.unusedVariables false

def joinedR (a b : List R.Run) : List R.Run × Nat :=
  if R.chk a ≠ 0 then ([], R.chk a) else if R.chk b ≠ 0 then ([], R.chk b) else if 64 < R.sumR a + R.sumR b then ([], 2) else (R.joinR (a ++ b), 0)

set_option maxHeartbeats 1000000 in
theorem joined_bad (a b : Option Addr) (c d : Nat) (l m : List R.Run) (w : World) (hl : l.length ≤ maxLen) (hm : m.length ≤ maxLen) (hu : Runs w w.heap.size a l) (hv : Runs w w.heap.size b m)
    (h : R.chk l ≠ 0 ∨ R.chk m ≠ 0 ∨ 64 < R.sumR l + R.sumR m) :
    Calls Try.prog 16 #[.slice a l.length c, .slice b m.length d] w (RunsPost (joinedR l m) w) := by
  have hs := sized_any a c l w hl hu
  have hs2 := fun w hv => sized_any b d m w hm hv
  by_cases h1 : R.chk l = 0
  · rw [sizedR, if_pos h1] at hs
    obtain ⟨g1, s1, _⟩ := R.chk_facts l h1
    have n1 := R.sum_nonneg l g1
    have HS := Lib.hid hs
    by_cases h2 : R.chk m = 0
    · simp only [sizedR, if_pos h2] at hs2
      obtain ⟨g2, s2, _⟩ := R.chk_facts m h2
      have n2 := R.sum_nonneg m g2
      have HR := Lib.hid (show joinedR l m = ([], 2) by rw [joinedR, if_neg (by omega), if_neg (by omega), if_pos (by omega)])
      have hgt : 64 < R.sumR l + R.sumR m := by omega
      generalize R.sumR l = x at *
      generalize R.sumR m = y at *
      have g3 : decide (64 < x + y) = true := by simp; omega
      have HS2 := Lib.hid hs2
      clear hs hs2 h1 h2 h
      go_enter Try.func16, Try.ntmps16
      go_wp2_with fail
      refine (HS.out).mono ?_
      rintro e w1 ⟨rfl, hb1⟩
      go_wp2_with fail
      refine (HS2.out w1 (hv.next hb1)).mono ?_
      rintro e w2 ⟨rfl, hb2⟩
      go_wp2_with fail
      go_ret2
      rw [HR.out]
      exact ⟨none, 0, rfl, Runs.nil _ _ _, below_then hb1 hb2⟩
    · simp only [sizedR, if_neg h2] at hs2
      have HR := Lib.hid (show joinedR l m = ([], R.chk m) by rw [joinedR, if_neg (by omega), if_pos h2])
      have gg : ((R.chk m : Int) != 0) = true := by rw [bne_iff_ne]; omega
      generalize R.chk m = er at *
      generalize R.sumR l = x at *
      have HS2 := Lib.hid hs2
      clear hs hs2 h1 h2 h
      go_enter Try.func16, Try.ntmps16
      go_wp2_with fail
      refine (HS.out).mono ?_
      rintro e w1 ⟨rfl, hb1⟩
      go_wp2_with fail
      refine (HS2.out w1 (hv.next hb1)).mono ?_
      rintro e w2 ⟨rfl, hb2⟩
      go_wp2_with fail
      go_ret2
      rw [HR.out]
      exact ⟨none, 0, rfl, Runs.nil _ _ _, below_then hb1 hb2⟩
  · rw [sizedR, if_neg h1] at hs
    have HR := Lib.hid (show joinedR l m = ([], R.chk l) by rw [joinedR, if_pos h1])
    have gg : ((R.chk l : Int) != 0) = true := by rw [bne_iff_ne]; omega
    generalize R.chk l = er at *
    have HS := Lib.hid hs
    clear hs hs2 h1 h
    go_enter Try.func16, Try.ntmps16
    go_wp2_with fail
    refine (HS.out).mono ?_
    rintro e w1 ⟨rfl, hb1⟩
    go_wp2_with fail
    go_ret2
    rw [HR.out]
    exact ⟨none, 0, rfl, Runs.nil _ _ _, hb1⟩

def PP (r : R.Run) : Prop := 1 ≤ r.2 ∧ r.2 ≤ 64
theorem good_len (l : List R.Run) (g : R.good l) (h : R.sumR l ≤ 64) : l.length ≤ 64 := by
  have : ∀ t : List R.Run, R.good t → (t.length : Int) ≤ R.sumR t := by
    intro t
    induction t with
    | nil => intro _; simp [R.sumR]
    | cons p t ih => intro g; have := ih (R.good_tail _ _ g); have := R.good_head _ _ g; simp only [R.sumR, List.length_cons]; omega
  have := this l g
  omega
theorem row_form {s : Nat} {Z : List R.Run} {v : Value} {W : World} (h : RunRow s Z v W) (hne : Z ≠ []) : ∃ g cap, v = .slice (some ⟨g, 0, none⟩) Z.length cap := by
  unfold RunRow at h
  rcases h.2 with ⟨_, h0⟩ | ⟨g, cap, cur, rfl, _⟩
  · exact absurd (List.eq_nil_of_length_eq_zero h0) hne
  · exact ⟨g, cap, rfl⟩
theorem accF_join (a b : List R.Run) : accF (accF [] a) b = R.joinR (a ++ b) := by simp [accF, R.joinR]
theorem runs_put {s : Nat} {Z : List R.Run} {v : Value} {W : World} {D : Nat} (h : RunRow s Z v W) (hK : W.heap[D]? = some (.deferred (some []))) : RunRow s Z v (W.putObj D (.deferred none)) := ownsRow_putObj h (.deferred none) hK rfl

set_option maxRecDepth 100000 in
set_option maxHeartbeats 4000000 in
theorem joined_ok (a b : Option Addr) (c d : Nat) (l m : List R.Run) (w : World) (hl : l.length ≤ maxLen) (hm : m.length ≤ maxLen) (hu : Runs w w.heap.size a l) (hv : Runs w w.heap.size b m)
    (h1 : R.chk l = 0) (h2 : R.chk m = 0) (h3 : R.sumR l + R.sumR m ≤ 64) :
    Calls Try.prog 16 #[.slice a l.length c, .slice b m.length d] w (RunsPost (R.joinR (l ++ m), 0) w) := by
  have hs := sized_any a c l w hl hu
  have hs2 := fun w hv => sized_any b d m w hm hv
  obtain ⟨g1, s1, _⟩ := R.chk_facts l h1
  have n1 := R.sum_nonneg l g1
  obtain ⟨g2, s2, _⟩ := R.chk_facts m h2
  have n2 := R.sum_nonneg m g2
  rw [sizedR, if_pos h1] at hs
  simp only [sizedR, if_pos h2] at hs2
  have HS := Lib.hid hs
  have HS2 := Lib.hid hs2
  have hll0 := good_len l g1 s1
  have hml0 := good_len m g2 s2
  generalize hx : R.sumR l = x at *
  generalize hy : R.sumR m = y at *
  have g3 : decide (64 < x + y) = false := by simp; omega
  have HPA := Lib.hid (show ∀ r ∈ l, PP r from fun r hr => (R.chk_facts l h1).2.2 r hr)
  have HPB := Lib.hid (show ∀ r ∈ m, PP r from fun r hr => (R.chk_facts m h2).2.2 r hr)
  clear hs hs2 h1 h2 hx hy
  refine (callsIn_wide (n := 6)).1 ?_
  refine callsIn_of_wp_marks Try.func16 rfl trivial ?_ rfl
  simp only [Try.ntmps16, List.size_toArray, List.length_cons, List.length_nil, Nat.reduceAdd, Nat.reduceSub, Array.replicate_succ, Array.replicate_zero, List.push_toArray, List.append_toArray, List.nil_append, List.cons_append]
  gi_wp2_with (refine ⟨trivial, ?_⟩; gi_at_call 22; refine (callsIn_wide.2 HS.out).mono ?_; clear HS; rintro e w1 ⟨rfl, hb1⟩)
  gi_wp2_with (refine ⟨trivial, ?_⟩; gi_at_call 22; refine (callsIn_wide.2 (HS2.out w1 (hv.next hb1))).mono ?_; clear HS2; rintro e w2 ⟨rfl, hb2⟩)
  have hsz1 := hb1.size
  have hB2 : Below w.heap.size w w2 := below_then hb1 hb2
  have hs2 := hB2.size
  have hlit : ((w2.alloc (.cells #[.slice none 0 0] 23)).alloc (.cells #[.slice a l.length c, .slice b m.length d] 23)).heap[w2.heap.size + 1]? = some (.cells #[.slice a l.length c, .slice b m.length d] 23 (0, 0)) := by
    have := heap_alloc_new (w2.alloc (.cells #[.slice none 0 0] 23)) (.cells #[.slice a l.length c, .slice b m.length d] 23)
    rw [World.size_alloc] at this
    exact this
  have hji : JI w.heap.size w2.heap.size (w2.heap.size + 1) #[.slice a l.length c, .slice b m.length d] w [] ((w2.alloc (.cells #[.slice none 0 0] 23)).alloc (.cells #[.slice a l.length c, .slice b m.length d] 23)) :=
    ⟨⟨.slice none 0 0, (Boxed.new w2 _ _).alloc _, ⟨rfl, Or.inl ⟨rfl, rfl⟩⟩⟩, hlit, (hB2.alloc hs2 _).alloc (by simp; omega) _⟩
  have hszW : ((w2.alloc (.cells #[.slice none 0 0] 23)).alloc (.cells #[.slice a l.length c, .slice b m.length d] 23)).heap.size = w2.heap.size + 2 := by simp
  obtain ⟨Bo, hBo⟩ : ∃ Bo, Bo = w2.heap.size := ⟨_, rfl⟩
  rw [← hBo] at hji hszW ⊢
  obtain ⟨Wa, hWa⟩ : ∃ Wa, (w2.alloc (.cells #[.slice none 0 0] 23)).alloc (.cells #[.slice a l.length c, .slice b m.length d] 23) = Wa := ⟨_, rfl⟩
  rw [hWa] at hji hszW ⊢
  have hBow : w.heap.size ≤ Bo := by omega
  have hWas : Bo + 1 < Wa.heap.size := by omega
  clear hWa hBo hszW hlit hb1 hb2 hB2 hs2 hsz1
  have cl0 : Wa.cell? ⟨Bo + 1, 0, none⟩ = some (.slice a l.length c) := by simp [World.cell?, hji.2.1]
  refine wpIn_loop_rounds 3 ?_
  rw [roundsIn_succ]
  gi_wp2_with (refine ⟨trivial, ?_⟩; gi_at_call 23; refine (placed_in Fence.wide _ trivial rfl _ _ _ _).mono ?_; rintro e w4 ⟨rfl, rfl⟩)
  have bS := Boxed.new Wa 23 (.slice a l.length c)
  have hjiS := hji.alloc (Nat.le_refl _) (.cells #[.slice a l.length c] 23)
  have hB0 := hjiS.2.2
  have hsz1 : (Wa.alloc (.cells #[.slice a l.length c] 23)).heap.size = Wa.heap.size + 1 := by simp
  obtain ⟨Bs, hBs⟩ : ∃ Bs, Bs = Wa.heap.size := ⟨_, rfl⟩
  rw [← hBs] at bS hsz1 ⊢
  obtain ⟨Wb, hWb⟩ : ∃ Wb, Wa.alloc (.cells #[.slice a l.length c] 23) = Wb := ⟨_, rfl⟩
  rw [hWb] at bS hjiS hB0 hsz1 ⊢
  have hBsb : Bs < Wb.heap.size := by omega
  have hBob : Bo + 1 < Bs := by omega
  clear hWb hBs hsz1 hji cl0
  refine wpIn_rangeFunc_ownH rfl (by omega) (gf := 24) (lb := #[.pointer (some ⟨Bs, 0, none⟩)]) rfl trivial (enters_of Try.func24 (by kernel_rfl) rfl)
    (placed_weak PP Fence.wide _ trivial rfl (by omega) Bs w.heap.size c a l hl HPA.out Wb (by omega) (by omega) bS.cell (hu.below hB0)) (fun h k => h.trans k) (fun W l o o' h1 h2 h3 _ => Kp.put W l o o' (by omega) h2 h3) (Below.refl _ _) (fun _ => rfl)
    (fun pre W => JI w.heap.size Bo (Bo + 1) #[.slice a l.length c, .slice b m.length d] w (accF [] (pre.map fun q => q.1.2)) W)
    (fun _ _ _ => False)
    (ji_own (Nat.le_refl _) (by omega) _)
    (fun _ _ _ _ _ hs _ _ => hs)
    hjiS
    (fun q a' W => ∃ Bx, Box2 W Bx (q.1.2.1 : Int) q.1.2.2 ∧ a' = { tmps := #[.slice a l.length c, .slice b m.length d, undef, undef, .slice none 0 0, .int .i64 0, .int .i64 x, .int .i64 0, .int .i64 y, .pointer (some ⟨Bo, 0, none⟩), undef, .slice a l.length c, undef, .pointer (some ⟨Bx, 0, none⟩), .tuple #[.int .i64 x, .int .i64 0], .slice a l.length c, .tuple #[.int .i64 x, .int .i64 0], .int .i64 x, .int .i64 0, .int .i64 0, .bool false, undef, .tuple #[.int .i64 y, .int .i64 0], .slice b m.length d, .tuple #[.int .i64 y, .int .i64 0], .int .i64 y, .int .i64 0, .int .i64 0, .bool false, undef, .int .i64 x, .int .i64 y, .int .i64 (x + y), .bool false, .slice a l.length c, .slice b m.length d, .slice (some ⟨Bo + 1, 0, none⟩) 2 2, .int .i64 2, .int .i64 0, .bool true, .pointer (some ⟨Bo + 1, 0, none⟩), .slice a l.length c, .slice a l.length c, .func (.func 24) #[] #[.pointer (some ⟨Bs, 0, none⟩)], .int .i64 q.1.1, .agg #[.int .u64 (q.1.2.1 : Int), .int .i64 q.1.2.2], undef, undef, undef, undef, undef], defers := [] })
    (fun x a' _ X Y row hs hg hr => by obtain ⟨Bx, k2, k3⟩ := hs; exact ⟨Bx, (hg.block Bx k2.lt (fun e => by obtain ⟨_, o, ho, hc⟩ := hr Bx e.symm; unfold Box2 at k2; rw [k2] at ho; cases ho; cases hc)).trans k2, k3⟩)
    ?assign0 ?body0 ?done0 ?stop0
  case assign0 =>
    rintro lp pre q W K hji hK
    obtain ⟨⟨f, z, k⟩, hq⟩ := q
    have hs1 := hji.2.2.size
    dsimp only [pxv]
    gi_wp2
    exact hK _ _ ((KeepsOthers.alloc _ _).from _) (Kp.alloc hs1 _) (hji.alloc (Nat.le_refl _) _) ⟨W.heap.size, Box2.new W _ _, rfl⟩
  case body0 =>
    rintro lp pre q a' W hlp ⟨r, hr⟩ ⟨⟨v, hv, hrow⟩, hbl, hB⟩ ⟨Bx, bX, rfl⟩ hlt
    obtain ⟨⟨f, z, k⟩, hq⟩ := q
    simp only at bX
    have HSN := Lib.hid (show accF [] ((pre ++ [(⟨(f, z, k), hq⟩ : { x : PX // PP x.2 })]).map fun q => q.1.2) = R.addR (accF [] (pre.map fun q => q.1.2)) (z, k) by
      rw [List.map_append, List.map_cons, List.map_nil, accF_snoc])
    have hbn := accF_bnd (pre.map fun q => q.1.2) [] 4096 (by intro p hp; cases hp) (by intro r hr; obtain ⟨q, _, rfl⟩ := List.mem_map.1 hr; exact q.2)
    have hln := accF_length (pre.map fun q => q.1.2) []
    rw [List.length_map] at hbn hln
    have hN : pre.length < 65 := Nat.lt_of_lt_of_le hlt (by omega)
    have hzl : ([] : List R.Run).length ≤ 64 := (by simp)
    generalize accF [] (pre.map fun q => q.1.2) = acc at *
    have HADD := Lib.hid (add2_any w.heap.size z k acc v W hrow hB.size (by omega) (by intro p hp; have := hbn p hp; omega) (by have h9 : 1 ≤ k ∧ k ≤ 64 := hq; omega))
    have HROW := Lib.hid hrow
    have HV := Lib.hid hv
    have HBL := Lib.hid hbl
    have cO := hv.cell
    have x0 := bX.c0
    have x1 := bX.c1
    clear hr hbn hrow hbl
    gi_wp2_with (refine ⟨trivial, ?_⟩; gi_at_call 19; refine (CallsIn.inRound lp (callsIn_wide.2 HADD.out)).mono ?_; clear HADD; rintro e W3 ⟨v', rfl, hrow3, hgr3, hk3⟩; obtain ⟨g3, cap3, rfl⟩ := row_form hrow3 (R.addR_ne _ _); obtain ⟨hv3, hj3, hko3, hkp3⟩ := JI.step HV.out HROW.out HBL.out hB (Nat.le_refl _) hBow (by omega) hrow3 hgr3 hk3; have cO3 := hv3.cell; have fO3 := hv3.frozen)
    refine ⟨hko3.from _, hkp3, ?_⟩
    dsimp only; rw [HSN.out]; exact hj3
  case done0 =>
    rintro D1 ys W hD hS hji hK1
    try dsimp only at hS hji
    rw [hS] at hji
    have hdS0 := hK1
    have cl1 : W.cell? ⟨Bo + 1, 1, none⟩ = some (.slice b m.length d) := by simp [World.cell?, hji.2.1]
    have hD1W : D1 < W.heap.size := lt_of_block hK1
    have hWs := hji.2.2.size
    have hBoW : Bo + 1 < W.heap.size := lt_of_block hji.2.1
    have HBZ := Lib.hid (show R.bnd ((4096 : Nat) : Int) (accF [] l) from fun p hp => by have := accF_bnd l [] 0 (by intro p hp; cases hp) HPA.out p hp; omega)
    have HZL := Lib.hid (show (accF [] l).length ≤ 64 by have := accF_length l []; simp at this; omega)
    clear hS bS hjiS hB0
    gi_wp2
    rw [roundsIn_succ]
    gi_wp2_with (refine ⟨trivial, ?_⟩; gi_at_call 23; refine (placed_in Fence.wide _ trivial rfl _ _ _ _).mono ?_; rintro e w4 ⟨rfl, rfl⟩)
    have bS := Boxed.new W 23 (.slice b m.length d)
    have hjiS := hji.alloc (Nat.le_refl _) (.cells #[.slice b m.length d] 23)
    have hB0 := hjiS.2.2
    have hdS := (Below.heap_alloc W (.cells #[.slice b m.length d] 23) D1 hD1W).trans hdS0
    have hsz1 : (W.alloc (.cells #[.slice b m.length d] 23)).heap.size = W.heap.size + 1 := by simp
    obtain ⟨Bt, hBt⟩ : ∃ Bt, Bt = W.heap.size := ⟨_, rfl⟩
    rw [← hBt] at bS hsz1 hD1W hWs hBoW ⊢
    obtain ⟨Wc, hWc⟩ : ∃ Wc, W.alloc (.cells #[.slice b m.length d] 23) = Wc := ⟨_, rfl⟩
    rw [hWc] at bS hjiS hB0 hdS hsz1 ⊢
    have hBtc : Bt < Wc.heap.size := by omega
    have hD1 : D1 < Wc.heap.size := by omega
    clear hWc hBt hsz1 hji cl1 hdS0 hK1
    refine wpIn_rangeFunc_ownH rfl (by omega) (gf := 24) (lb := #[.pointer (some ⟨Bt, 0, none⟩)]) rfl trivial (enters_of Try.func24 (by kernel_rfl) rfl)
      (placed_weak PP Fence.wide _ trivial rfl (by omega) Bt w.heap.size d b m hm HPB.out Wc (by omega) (by omega) bS.cell (hv.below hB0)) (fun h k => h.trans k) (fun W l o o' h1 h2 h3 _ => Kp.put W l o o' (by omega) h2 h3) (Below.refl _ _) (fun _ => rfl)
      (fun pre W => (JI w.heap.size Bo (Bo + 1) #[.slice a l.length c, .slice b m.length d] w (accF (accF [] l) (pre.map fun q => q.1.2)) W) ∧ W.heap[D1]? = some (.deferred (some [])))
      (fun _ _ _ => False)
      (OwnFrom.and (ji_own (Nat.le_refl _) (by omega) _) (dk_own hD1))
      (fun _ _ _ _ _ hs _ _ => hs)
      ⟨hjiS, hdS⟩
      (fun q a' W => ∃ Bx, Box2 W Bx (q.1.2.1 : Int) q.1.2.2 ∧ a' = { tmps := #[.slice a l.length c, .slice b m.length d, undef, undef, .slice none 0 0, .int .i64 0, .int .i64 x, .int .i64 0, .int .i64 y, .pointer (some ⟨Bo, 0, none⟩), undef, .slice b m.length d, undef, .pointer (some ⟨Bx, 0, none⟩), .tuple #[.int .i64 x, .int .i64 0], .slice a l.length c, .tuple #[.int .i64 x, .int .i64 0], .int .i64 x, .int .i64 0, .int .i64 0, .bool false, undef, .tuple #[.int .i64 y, .int .i64 0], .slice b m.length d, .tuple #[.int .i64 y, .int .i64 0], .int .i64 y, .int .i64 0, .int .i64 0, .bool false, undef, .int .i64 x, .int .i64 y, .int .i64 (x + y), .bool false, .slice a l.length c, .slice b m.length d, .slice (some ⟨Bo + 1, 0, none⟩) 2 2, .int .i64 2, .int .i64 1, .bool true, .pointer (some ⟨Bo + 1, 1, none⟩), .slice b m.length d, .slice b m.length d, .func (.func 24) #[] #[.pointer (some ⟨Bt, 0, none⟩)], .int .i64 q.1.1, .agg #[.int .u64 (q.1.2.1 : Int), .int .i64 q.1.2.2], undef, undef, undef, .int .i64 1, undef], defers := [] })
      (fun x a' _ X Y row hs hg hr => by obtain ⟨Bx, k2, k3⟩ := hs; exact ⟨Bx, (hg.block Bx k2.lt (fun e => by obtain ⟨_, o, ho, hc⟩ := hr Bx e.symm; unfold Box2 at k2; rw [k2] at ho; cases ho; cases hc)).trans k2, k3⟩)
      ?assign1 ?body1 ?done1 ?stop1
    case assign1 =>
      rintro lp pre q W K ⟨hji, hdk⟩ hK
      obtain ⟨⟨f, z, k⟩, hq⟩ := q
      have hs1 := hji.2.2.size
      dsimp only [pxv]
      gi_wp2
      exact hK _ _ ((KeepsOthers.alloc _ _).from _) (Kp.alloc hs1 _) ⟨hji.alloc (Nat.le_refl _) _, (Below.heap_alloc W _ D1 (lt_of_block hdk)).trans hdk⟩ ⟨W.heap.size, Box2.new W _ _, rfl⟩
    case body1 =>
      rintro lp pre q a' W hlp ⟨r, hr⟩ ⟨⟨⟨v, hv, hrow⟩, hbl, hB⟩, hdk⟩ ⟨Bx, bX, rfl⟩ hlt
      obtain ⟨⟨f, z, k⟩, hq⟩ := q
      simp only at bX
      have HSN := Lib.hid (show accF (accF [] l) ((pre ++ [(⟨(f, z, k), hq⟩ : { x : PX // PP x.2 })]).map fun q => q.1.2) = R.addR (accF (accF [] l) (pre.map fun q => q.1.2)) (z, k) by
        rw [List.map_append, List.map_cons, List.map_nil, accF_snoc])
      have hbn := accF_bnd (pre.map fun q => q.1.2) (accF [] l) 4096 HBZ.out (by intro r hr; obtain ⟨q, _, rfl⟩ := List.mem_map.1 hr; exact q.2)
      have hln := accF_length (pre.map fun q => q.1.2) (accF [] l)
      rw [List.length_map] at hbn hln
      have hN : pre.length < 65 := Nat.lt_of_lt_of_le hlt (by omega)
      have hzl : ((accF [] l) : List R.Run).length ≤ 64 := HZL.out
      generalize accF (accF [] l) (pre.map fun q => q.1.2) = acc at *
      have HADD := Lib.hid (add2_any w.heap.size z k acc v W hrow hB.size (by omega) (by intro p hp; have := hbn p hp; omega) (by have h9 : 1 ≤ k ∧ k ≤ 64 := hq; omega))
      have HROW := Lib.hid hrow
      have HV := Lib.hid hv
      have HBL := Lib.hid hbl
      have cO := hv.cell
      have x0 := bX.c0
      have x1 := bX.c1
      clear hr hbn hrow hbl
      gi_wp2_with (refine ⟨trivial, ?_⟩; gi_at_call 19; refine (CallsIn.inRound lp (callsIn_wide.2 HADD.out)).mono ?_; clear HADD; rintro e W3 ⟨v', rfl, hrow3, hgr3, hk3⟩; obtain ⟨g3, cap3, rfl⟩ := row_form hrow3 (R.addR_ne _ _); obtain ⟨hv3, hj3, hko3, hkp3⟩ := JI.step HV.out HROW.out HBL.out hB (Nat.le_refl _) hBow (by omega) hrow3 hgr3 hk3; have cO3 := hv3.cell; have fO3 := hv3.frozen)
      refine ⟨hko3.from _, hkp3, ?_⟩
      dsimp only; rw [HSN.out]; exact ⟨hj3, hko3.same D1 _ hdk rfl⟩
    case done1 =>
      rintro D2 ys W2 hD2 hS hji hK2
      obtain ⟨hji, hdk⟩ := hji
      try dsimp only at hS hji
      rw [hS, accF_join] at hji
      obtain ⟨⟨v, hv, hrow⟩, hbl, hB⟩ := hji
      obtain ⟨va, vc, rfl, hruns⟩ := runRow_slice hrow
      have cO := hv.cell
      have hne : D1 ≠ D2 := by omega
      have hdk' : (W2.putObj D2 (.deferred none)).heap[D1]? = some (.deferred (some [])) := (World.putObj_heap_other (by omega)).trans hdk
      have hr1 := runs_put hrow hK2
      have hr2 := runs_put hr1 hdk'
      have hb1 := hB.trans (belowK_b (w := w) (Nat.le_refl _) W2 D2 _ (.deferred none) (by omega) hK2 rfl rfl)
      have hb2 := hb1.trans (belowK_b (w := w) (Nat.le_refl _) (W2.putObj D2 (.deferred none)) D1 _ (.deferred none) (by omega) hdk' rfl rfl)
      obtain ⟨va', vc', he, hruns'⟩ := runRow_slice hr2
      injection he with he1 _ he2
      subst he1
      generalize R.joinR (l ++ m) = res at *
      clear hS
      gi_wp2
      rw [roundsIn_succ]
      gi_wp2
      refine ⟨by simp, .inl ⟨_, _, rfl, run_takeDeferred hK2, by simp, .inl ⟨_, _, rfl, run_takeDeferred hdk', ?_⟩⟩⟩
      exact ⟨.tuple #[.slice va res.length vc', .int .i64 0], by simp [results, Try.f16, go_sem], ⟨va, vc', rfl, hruns', hb2⟩⟩
    case stop1 =>
      rintro D c pre W _ _ h _
      exact h.elim
  case stop0 =>
    rintro D c pre W _ _ h _
    exact h.elim

theorem joined_any (a b : Option Addr) (c d : Nat) (l m : List R.Run) (w : World) (hl : l.length ≤ maxLen) (hm : m.length ≤ maxLen) (hu : Runs w w.heap.size a l) (hv : Runs w w.heap.size b m) :
    Calls Try.prog 16 #[.slice a l.length c, .slice b m.length d] w (RunsPost (joinedR l m) w) := by
  by_cases h : R.chk l ≠ 0 ∨ R.chk m ≠ 0 ∨ 64 < R.sumR l + R.sumR m
  · exact joined_bad a b c d l m w hl hm hu hv h
  · rw [joinedR, if_neg (by omega), if_neg (by omega), if_neg (by omega)]
    exact joined_ok a b c d l m w hl hm hu hv (by omega) (by omega) (by omega)
end Go.Proofs.Ythmlafoceacliab
