/- The walk of hypostyleref.FilterOf. -/
import Derived.Test.YtbhggbohkddlaaaBlR3
namespace Go.Proofs.Ytbhggbohkddlaaa
open Go.RowKit
set_option linter.unusedVariables false

def msetN (mm : Nat → Nat) (Y : Bl.F) : Nat → Bl.F
  | 0 => Y
  | k + 1 => Bl.put (msetN mm Y k) (mm k)
theorem msetN_ok (mm : Nat → Nat) {Y : Bl.F} (h : Bl.fOk Y) : ∀ k, Bl.fOk (msetN mm Y k)
  | 0 => h
  | k + 1 => Bl.put_ok (msetN_ok mm h k) _
def mms (h k : Nat) : Nat := if k = 0 then Bl.m0 h else if k = 1 then Bl.m1 h else Bl.m2 h
theorem mms_lt (h k : Nat) : mms h k < 256 := by
  unfold mms
  split
  · exact Nat.mod_lt _ (by omega)
  · split <;> exact Nat.mod_lt _ (by omega)
theorem msetN_add (Y : Bl.F) (c : C.Cl) : msetN (mms (Bl.hash c)) Y 3 = Bl.add Y c := by rw [Bl.add_put]; rfl

set_option maxHeartbeats 4000000 in
set_option maxRecDepth 100000 in
theorem filterOf_any (f : Bl.F) (a : Option Addr) (cap : Nat) (l : List C.Cl) (w : World) (hf : Bl.fOk f) (hl : l.length ≤ maxLen) (hx : ∀ x ∈ l, cOk x) (hm : ∀ x ∈ l, x.txt.length + 16 ≤ maxLen) (hu : Cls w w.heap.size a l) :
    Calls Try.prog 10 #[fag f, .slice a l.length cap] w (FilPost (Bl.fil f l) w) := by
  unfold maxLen at hl
  have HU := Lib.hid hu
  have HOK := Lib.hid (fun j (h : j < l.length) => hx _ (cgetD_mem l j h))
  have HTX := Lib.hid (fun j (h : j < l.length) => hm _ (cgetD_mem l j h))
  have HF0 := Lib.hid hf
  clear hu hx hm hf
  unfold fag qv
  go_enter Try.func10, Try.ntmps10
  go_wp2_with fail
  go_loopw [5, 6, 7] (fun i _ _ wr => ∃ j : Nat, j ≤ l.length ∧ i = .int .i64 j ∧ Quad wr w.heap.size (Bl.fil f (l.take j)) ∧ Quad wr (w.heap.size + 1) Bl.none_ ∧ Below w.heap.size w wr) (fun i _ _ _ => l.length - (intOf i).toNat)
  case atStart =>
    have q0 : Quad (w.alloc (.cells (qv f) 23)) w.heap.size f := quad_new w f
    have q1 := q0.next ((Below.refl _ _).alloc (Nat.le_refl _) (.cells (qv Bl.none_) 23))
    have r1 := quad_new (w.alloc (.cells (qv f) 23)) Bl.none_
    rw [show (w.alloc (.cells (qv f) 23)).heap.size = w.heap.size + 1 by simp] at r1
    refine ⟨0, by omega, rfl, q1, r1, ?_⟩
    refine Below.alloc (Below.alloc (Below.refl _ _) (Nat.le_refl _) _) ?_ _ <;> simp
  case round =>
    obtain ⟨j, hj, rfl, hF, hR, hbw⟩ := hrel
    have hsz := hR.lt
    by_cases hlt : j < l.length
    · obtain ⟨b, off, rfl, hb, hcc⟩ := HU.out (fun e => by rw [e] at hlt; simp at hlt)
      obtain ⟨k0, k1, k2⟩ := hcc j hlt
      have c0 := (hbw.cell (p := ⟨b, off + j * 3, none⟩) hb).trans k0
      have c1 := (hbw.cell (p := ⟨b, off + j * 3 + 1, none⟩) hb).trans k1
      have c2 := (hbw.cell (p := ⟨b, off + j * 3 + 2, none⟩) hb).trans k2
      have HM := Lib.hid (fun W => marksAt_any (l.getD j C.null) W (HOK.out j hlt) (HTX.out j hlt))
      have HN := Lib.hid (show msetN (mms (Bl.hash (l.getD j C.null))) (Bl.fil f (l.take j)) 3 = Bl.fil f (l.take (j + 1)) by
        rw [msetN_add, ctake_succ l j hlt, Bl.fil_snoc])
      have HOKN := Lib.hid (fun k => msetN_ok (mms (Bl.hash (l.getD j C.null))) (Bl.fil_ok HF0.out (l.take j)) k)
      have HML := Lib.hid (mms_lt (Bl.hash (l.getD j C.null)))
      have hM3 : Bl.m0 (Bl.hash (l.getD j C.null)) = mms (Bl.hash (l.getD j C.null)) 0 ∧ Bl.m1 (Bl.hash (l.getD j C.null)) = mms (Bl.hash (l.getD j C.null)) 1 ∧ Bl.m2 (Bl.hash (l.getD j C.null)) = mms (Bl.hash (l.getD j C.null)) 2 := ⟨rfl, rfl, rfl⟩
      unfold ThreePost cag at HM
      rw [hM3.1, hM3.2.1, hM3.2.2] at HM
      clear hM3
      have hjI : (j : Int) < (l.length : Int) := by omega
      generalize mms (Bl.hash (l.getD j C.null)) = mm at *
      generalize Bl.fil f (l.take j) = Y at *
      generalize (l.getD j C.null).kind = z at *
      generalize (l.getD j C.null).num = n at *
      generalize str (l.getD j C.null).txt = T at *
      have HFH := Lib.hid hF
      have HRH := Lib.hid hR
      have HBW := Lib.hid hbw
      clear hF hR hbw k0 k1 k2 hcc
      go_wp2_with fail
      refine (HM.out _).mono ?_
      rintro e w1 ⟨g, rfl, hg, hg2, d0, d1, d2, hb1⟩
      have F1 := HFH.out.next hb1
      have R1 := HRH.out.next hb1
      have B1 := below_then HBW.out hb1
      have hne : g ≠ w.heap.size := by omega
      have HG : ∀ k, k < 3 → w1.cell? ⟨g, k, none⟩ = some (.int .i64 (mm k : Nat)) := fun k hk => by
        have : k = 0 ∨ k = 1 ∨ k = 2 := by omega
        rcases this with rfl | rfl | rfl <;> assumption
      clear hb1 HFH HRH HBW d0 d1 d2 hg2
      have HF1 := Lib.hid F1
      have HR1 := Lib.hid R1
      have HB1 := Lib.hid B1
      have HGH := Lib.hid HG
      clear F1 R1 B1 HG
      go_wp2_with fail
      go_loopw [7] (fun k wr2 => ∃ p : Nat, p ≤ 3 ∧ k = .int .i64 p ∧ Quad wr2 w.heap.size (msetN mm Y p) ∧ Quad wr2 (w.heap.size + 1) Bl.none_ ∧ (g < wr2.heap.size ∧ ∀ q, q < 3 → wr2.cell? ⟨g, q, none⟩ = some (.int .i64 (mm q : Nat))) ∧ Below w.heap.size w wr2) (fun k _ => 3 - (intOf k).toNat)
      case atStart => exact ⟨0, by omega, rfl, HF1.out, HR1.out, ⟨hg, HGH.out⟩, HB1.out⟩
      case round =>
        obtain ⟨p, hp, rfl, hF, hR, ⟨hgs, hG⟩, hbw⟩ := hrel
        have hsz2 := hR.lt
        by_cases hlt3 : p < 3
        · have h0 := Lib.hid (fun W => hasMark_any (msetN mm Y p) (mm p) W (HOKN.out p) (HML.out p))
          have hpI : (p : Int) < 3 := by omega
          have hml := HML.out p
          have hstep : msetN mm Y (p + 1) = Bl.put (msetN mm Y p) (mm p) := rfl
          have hokp := HOKN.out p
          have hcg := hG p hlt3
          obtain ⟨X, hX⟩ : ∃ X, X = msetN mm Y p := ⟨_, rfl⟩
          obtain ⟨Z, hZ⟩ : ∃ Z, Z = msetN mm Y (p + 1) := ⟨_, rfl⟩
          have HZ := Lib.hid hZ
          rw [← hX] at hF h0 hstep hokp
          rw [← hZ] at hstep
          clear hX hZ
          obtain ⟨a0, a1, a2, a3⟩ := hF.all
          have f0 : ∀ q : WB wr, q.w.cell? ⟨w.heap.size, 0, none⟩ = some (.int .u64 (X 0 : Nat)) := fun q => q.cell hF.lt a0
          have f1 : ∀ q : WB wr, q.w.cell? ⟨w.heap.size, 1, none⟩ = some (.int .u64 (X 1 : Nat)) := fun q => q.cell hF.lt a1
          have f2 : ∀ q : WB wr, q.w.cell? ⟨w.heap.size, 2, none⟩ = some (.int .u64 (X 2 : Nat)) := fun q => q.cell hF.lt a2
          have f3 : ∀ q : WB wr, q.w.cell? ⟨w.heap.size, 3, none⟩ = some (.int .u64 (X 3 : Nat)) := fun q => q.cell hF.lt a3
          have g0 : ∀ q : WB wr, q.w.cell? ⟨g, p, none⟩ = some (.int .i64 (mm p : Nat)) := fun q => q.cell hgs hcg
          have HF2 := Lib.hid hF
          have HR2 := Lib.hid hR
          have HG2 := Lib.hid hG
          have HB2 := Lib.hid hbw
          clear hF hR hG hbw a0 a1 a2 a3 hcg
          unfold fag qv at h0
          obtain ⟨x, hx⟩ : ∃ x, x = Bl.has X (mm p) := ⟨_, rfl⟩
          rw [← hx] at h0
          generalize hm' : mm p = m at *
          have HMP := Lib.hid hm'
          have HST := Lib.hid hstep
          have HXX := Lib.hid hx
          clear hm' hstep hx
          cases x
          · have HADD := Lib.hid (Bl.put_add (show (X (m / 64)).testBit (m % 64) = false from HXX.out.symm))
            go_wp2_with fail
            refine wp_region_wb (by kernel_rfl) (by kernel_rfl) ?_
            repeat (quiet_step ((go_at_call 26; exact calls_wb (h0.out _))))
            refine wpQuiet_nil ?_
            rintro _ ⟨q, rfl⟩
            have hb6 := q.below
            have A6 := HF2.out.next hb6
            have R6 := HR2.out.next hb6
            have G6 : ∀ k, k < 3 → q.w.cell? ⟨g, k, none⟩ = some (.int .i64 (mm k : Nat)) := fun k hk => q.cell hgs (HG2.out k hk)
            have hg6 := g0 q
            have hs6 := hb6.size
            have W6 := below_then HB2.out hb6
            obtain ⟨w6, hw6⟩ : ∃ w6, w6 = q.w := ⟨_, rfl⟩
            rw [← hw6] at A6 R6 G6 hg6 hs6 W6 ⊢
            clear hw6 hb6 f0 f1 f2 f3 g0 q HF2 HR2 HG2 HB2
            go_wp2_with fail
            have hcc := A6.c (m / 64) (by omega)
            have hzz := A6.free (m / 64)
            have hxb : X (m / 64) < 18446744073709551616 := hokp _ (by omega)
            have hsb : X (m / 64) + 2 ^ (m % 64) < 18446744073709551616 := by
              rw [← HADD.out]
              exact Nat.or_lt_two_pow (n := 64) hxb (Nat.pow_lt_pow_right (n := 64) (by omega) (Nat.mod_lt _ (by omega)))
            have hput : Z = Bl.upd X (m / 64) (X (m / 64) + 2 ^ (m % 64)) := by rw [HST.out]; unfold Bl.put; rw [HADD.out]
            have A7 := A6.put (m / 64) (X (m / 64) + 2 ^ (m % 64)) (by omega)
            rw [← hput] at A7
            have A8 := Lib.hid A7.drew
            have R8 := Lib.hid ((R6.far w.heap.size (m / 64) (.int .u64 ((X (m / 64) + 2 ^ (m % 64) : Nat) : Int)) (by omega)).drew)
            have W8 := Lib.hid ((W6.setCell (p := ⟨w.heap.size, m / 64, none⟩) (Nat.le_refl _) (.int .u64 ((X (m / 64) + 2 ^ (m % 64) : Nat) : Int))).drew)
            have G8 := Lib.hid (show ∀ k, k < 3 → (w6.setCell ⟨w.heap.size, m / 64, none⟩ (.int .u64 ((X (m / 64) + 2 ^ (m % 64) : Nat) : Int))).drew.cell? ⟨g, k, none⟩ = some (.int .i64 (mm k : Nat)) from fun k hk => by
              have := G6 k hk
              simp only [World.cell?, World.drew, World.setCell] at this ⊢
              simpa [Array.getElem?_modify, Ne.symm hne] using this)
            have HP := Lib.hid (fun W => pow2_any (m % 64) W (by omega))
            clear A6 R6 W6 G6 A7 hput hxb hokp HADD HXX h0 HOK HTX HF0
            generalize hj' : m / 64 = j' at *
            generalize hr : m % 64 = r at *
            have hj4 : j' < 4 := by omega
            have hr64 : r < 64 := by omega
            have e1 : (m : Int) / 64 = (j' : Int) := by omega
            have e2 : (m : Int).tmod 64 = (r : Int) := by rw [Int.tmod_eq_emod_of_nonneg (by omega)]; omega
            have hjI4 : (j' : Int) < 4 := by omega
            have hwj : IntKind.i64.wrap (j' : Int) = j' := IntWalk.i64_in _ (by omega)
            have hwr : IntKind.i64.wrap (r : Int) = r := IntWalk.i64_in _ (by omega)
            generalize X j' = x at *
            generalize 2 ^ r = P at *
            have hadd : IntKind.u64.wrap ((x : Int) + (P : Int)) = ((x + P : Nat) : Int) := by rw [IntKind.wrap_u64]; omega
            clear hj' hr hsb
            refine wp_region_still_tail 15 (by kernel_rfl) (by kernel_rfl) ?_
            simp only [List.take_succ_cons, List.take_zero, List.drop_succ_cons, List.drop_zero]
            rw [show ({ w6 with drawn := w6.drawn + 1 } : World) = w6.drew from rfl]
            have hcc : w6.drew.cell? ⟨w.heap.size, j', none⟩ = some (.int .u64 (x : Int)) := hcc
            have hzz : w6.drew.frozen? ⟨w.heap.size, j', none⟩ = false := hzz
            have hg6 : w6.drew.cell? ⟨g, p, none⟩ = some (.int .i64 (m : Int)) := hg6
            have hs6 : g < w6.drew.heap.size := Nat.lt_of_lt_of_le hgs hs6
            have A9 := Lib.hid (show Quad (w6.drew.setCell ⟨w.heap.size, j', none⟩ (.int .u64 ((x + P : Nat) : Int))) w.heap.size Z from A8.out)
            have R9 := Lib.hid (show Quad (w6.drew.setCell ⟨w.heap.size, j', none⟩ (.int .u64 ((x + P : Nat) : Int))) (w.heap.size + 1) Bl.none_ from R8.out)
            have W9 := Lib.hid (show Below w.heap.size w (w6.drew.setCell ⟨w.heap.size, j', none⟩ (.int .u64 ((x + P : Nat) : Int))) from W8.out)
            have G9 := Lib.hid (show ∀ k, k < 3 → (w6.drew.setCell ⟨w.heap.size, j', none⟩ (.int .u64 ((x + P : Nat) : Int))).cell? ⟨g, k, none⟩ = some (.int .i64 (mm k : Nat)) from G8.out)
            clear A8 R8 W8 G8
            generalize w6.drew = W1 at *
            repeat still_step
            still_call (vstill (HP.out _))
            repeat still_step
            refine wpStill_nil ?_
            go_wp2_with fail
            refine ⟨⟨p + 1, by omega, by go_num, ?_, R9.out, ⟨by simpa using hs6, G9.out⟩, W9.out⟩, by simp [intOf]; omega⟩
            rw [← HZ.out]
            exact A9.out
          · have HSAME := Lib.hid (Bl.put_has HXX.out.symm)
            go_wp2_with fail
            refine wp_region_wb (by kernel_rfl) (by kernel_rfl) ?_
            repeat (quiet_step ((go_at_call 26; exact calls_wb (h0.out _))))
            refine wpQuiet_nil ?_
            rintro _ ⟨q, rfl⟩
            have hb6 := q.below
            go_wp2_with fail
            refine ⟨⟨p + 1, by omega, by go_num, by rw [← HZ.out, HST.out, HSAME.out]; exact HF2.out.next hb6, HR2.out.next hb6, ⟨Nat.lt_of_lt_of_le hgs hb6.size, fun k hk => q.cell hgs (HG2.out k hk)⟩, below_then HB2.out hb6⟩, by simp [intOf]; omega⟩
        · obtain rfl : p = 3 := by omega
          go_wp2_with fail
          refine ⟨⟨j + 1, by omega, by go_num, by rw [← HN.out]; exact hF, hR, hbw⟩, by simp [intOf]; omega⟩
    · obtain rfl : j = l.length := by omega
      rw [List.take_length] at hF
      generalize Bl.fil f l = X at *
      obtain ⟨a0, a1, a2, a3⟩ := hF.all
      have z0 := hR.free 0
      have z1 := hR.free 1
      have z2 := hR.free 2
      have z3 := hR.free 3
      obtain ⟨r0, r1, r2, r3⟩ := hR.all
      obtain ⟨s0, s1, s2, s3⟩ := (hR.set4 X).all
      go_wp2_with fail
      refine bodyPost_ret (v := fag X) (by simp [results, Try.results10, go_sem, fag, qv, s0, s1, s2, s3]) rfl ⟨rfl, ?_⟩
      exact below_set4 hbw (by omega) _ _ _ _
end Go.Proofs.Ytbhggbohkddlaaa
