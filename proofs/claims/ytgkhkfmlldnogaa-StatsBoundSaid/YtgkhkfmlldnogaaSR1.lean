/- The walk of hypostyleref.KnownOf. -/
import Derived.Test.YtgkhkfmlldnogaaSBase
import Derived.Test.YtgkhkfmlldnogaaCDense
import Derived.Test.YtgkhkfmlldnogaaCLess
import Derived.Test.YtgkhkfmlldnogaaWB
namespace Go.Proofs.Ytgkhkfmlldnogaa
open Go.RowKit
set_option linter.unusedVariables false

set_option maxHeartbeats 16000000 in
set_option maxRecDepth 100000 in
theorem knownOf_any (a : Option Addr) (c : Nat) (l : List C.Cl) (w : World) (hl : l.length * 32 ≤ 140737488355320) (hx : ∀ x ∈ l, cOk x) (hu : Cls w w.heap.size a l) :
    Calls Try.prog 10 #[.slice a l.length c] w (StPost (S.known l) w) := by
  have hal := (Below.refl w.heap.size w).alloc (Nat.le_refl _) (.cells #[.int .i64 0, .int .i64 0, .int .i64 0, .int .u64 0, .string ByteArray.empty, .int .i64 0, .int .u64 0, .string ByteArray.empty] 27)
  have hG := oct_new w [.int .i64 0, .int .i64 0, .int .i64 0, .int .u64 0, .string ByteArray.empty, .int .i64 0, .int .u64 0, .string ByteArray.empty]
  have HD := Lib.hid (denseOf_any a c l (w.alloc (.cells #[.int .i64 0, .int .i64 0, .int .i64 0, .int .u64 0, .string ByteArray.empty, .int .i64 0, .int .u64 0, .string ByteArray.empty] 27)) (by omega) (hu.next hal))
  have hdl : (C.dense l).length ≤ l.length := List.length_filter_le _ _
  have HXD := Lib.hid (fun (x : C.Cl) (h : x ∈ C.dense l) => (hx x (List.mem_filter.1 h).1).2.2.2)
  have HK := Lib.hid (show S.known l = ⟨l.length, (l.length : Int) - ((C.dense l).length : Int), S.least (C.dense l), S.most (C.dense l)⟩ from rfl)
  generalize C.dense l = ds at *
  generalize S.known l = R at *
  have hsub : IntKind.i64.wrap ((l.length : Int) - (ds.length : Int)) = (l.length : Int) - (ds.length : Int) := by rw [IntKind.wrap_i64]; omega
  have HAL := Lib.hid hal
  have HG := Lib.hid hG
  have HPA := Lib.hid (S.pick_all ds)
  have HMN := Lib.hid (fun i k h => S.minAt_next ds i k h)
  have HMX := Lib.hid (fun i k h => S.maxAt_next ds i k h)
  have HPL := Lib.hid (fun i => show S.pickL ds (i + 1) = if S.minAt ds i ds.length = true then ds.getD i C.null else S.pickL ds i from rfl)
  have HPM := Lib.hid (fun i => show S.pickM ds (i + 1) = if S.maxAt ds i ds.length = true then ds.getD i C.null else S.pickM ds i from rfl)
  have HGD := Lib.hid (fun i (h : i < ds.length) => HXD.out _ (S.getD_in h))
  clear hal hG hx hu HXD
  go_enter Try.func10, Try.ntmps10
  go_wp2_with fail
  refine (HD.out).mono ?_
  rintro e w2 ⟨vd, rfl, hrow, hb2⟩
  obtain ⟨ad, cd, rfl, hcl, _⟩ := cRow_cls hrow
  have hG2 := HG.out.next hb2
  have hw2 := below_then HAL.out hb2
  have HCL := Lib.hid hcl
  clear hrow hcl HG HAL HD hb2
  obtain ⟨G, hGe⟩ : ∃ G, G = w.heap.size := ⟨_, rfl⟩
  rw [← hGe] at hG2 ⊢
  have hGw : w.heap.size ≤ G := by omega
  have hG2l := hG2.lt
  clear hGe
  have hS := oct_new w2 (sx ⟨l.length, (l.length : Int) - (ds.length : Int), C.null, C.null⟩)
  have hal2 := (Below.refl w2.heap.size w2).alloc (Nat.le_refl _) (.cells (sx ⟨l.length, (l.length : Int) - (ds.length : Int), C.null, C.null⟩).toArray 27)
  have HS := Lib.hid hS
  have HAL2 := Lib.hid hal2
  clear hS hal2
  go_wp2_with fail
  go_loopw [5, 6, 7, 8] (fun vi _ _ _ wr => ∃ i : Nat, i ≤ ds.length ∧ vi = .int .i64 i ∧ Below w2.heap.size w2 wr ∧ Oct wr w2.heap.size (sx ⟨l.length, (l.length : Int) - (ds.length : Int), S.pickL ds i, S.pickM ds i⟩)) (fun vi _ _ _ _ => ds.length - (intOf vi).toNat)
  case atStart => exact ⟨0, by omega, rfl, HAL2.out, HS.out⟩
  case round =>
    clear HAL2 HS
    obtain ⟨i, hi, rfl, hbw, hS⟩ := hrel
    by_cases hlt : i < ds.length
    · obtain ⟨b, off, rfl, hb, hcc⟩ := HCL.out (fun e => by rw [e] at hlt; simp at hlt)
      obtain ⟨z0, z1, z2⟩ := hcc i hlt
      have hiI : (i : Int) < (ds.length : Int) := by omega
      have hi0 : (0 : Int) ≤ (i : Int) := by omega
      have HPLi := Lib.hid (HPL.out i)
      have HPMi := Lib.hid (HPM.out i)
      have HMNi := Lib.hid (fun k h => HMN.out i k h)
      have HMXi := Lib.hid (fun k h => HMX.out i k h)
      have HZL := Lib.hid (HGD.out i hlt)
      obtain ⟨z, hz⟩ : ∃ z, z = ds.getD i C.null := ⟨_, rfl⟩
      rw [← hz] at z0 z1 z2 HPLi HPMi HMNi HMXi HZL
      have hbs := hbw.size
      have HCC := Lib.hid hcc
      have HS := Lib.hid hS
      have m0 : S.minAt ds i 0 = true := rfl
      have M0 : S.maxAt ds i 0 = true := rfl
      generalize S.pickL ds i = pl at *
      generalize S.pickM ds i = pm at *
      generalize S.minAt ds i = mn at *
      generalize S.maxAt ds i = mx at *
      clear hz hcc hS hi
      go_wp2_with fail
      rename World => Wo
      go_loopw [6, 7, 8] (fun v6 v7 v8 wk => ∃ k : Nat, k ≤ ds.length ∧ v8 = .int .i64 k ∧ v6 = .bool (mn k) ∧ v7 = .bool (mx k) ∧ Below Wo.heap.size Wo wk) (fun _ _ v8 _ => ds.length - (intOf v8).toNat)
      case atStart => exact ⟨0, by omega, rfl, by rw [m0], by rw [M0], Below.refl _ _⟩
      case round =>
        obtain ⟨k, hk, rfl, rfl, rfl, hbk⟩ := hrel
        by_cases hlk : k < ds.length
        · obtain ⟨y0, y1, y2⟩ := HCC.out k hlk
          have hkI : (k : Int) < (ds.length : Int) := by omega
          have hk0 : (0 : Int) ≤ (k : Int) := by omega
          have hmn := HMNi.out k hlk
          have hmx := HMXi.out k hlk
          have hyl := HGD.out k hlk
          obtain ⟨y, hy⟩ : ∃ y, y = ds.getD k C.null := ⟨_, rfl⟩
          rw [← hy] at y0 y1 y2 hmn hmx hyl
          have HYZ := Lib.hid (fun W => cellLess_any y z W hyl HZL.out)
          have HZY := Lib.hid (fun W => cellLess_any z y W HZL.out hyl)
          unfold cag at HYZ HZY
          have hbb := hbw.trans (hbk.mono hbw.size)
          have hbl : b < wr.heap.size := Nat.lt_of_lt_of_le hb hbb.size
          have f0 : ∀ p : WB wr, p.w.cell? ⟨b, off + k * 3, none⟩ = some (.int .i64 y.kind) := fun p => p.cell hbl ((hbb.cell (p := ⟨b, off + k * 3, none⟩) hb).trans y0)
          have f1 : ∀ p : WB wr, p.w.cell? ⟨b, off + k * 3 + 1, none⟩ = some (.int .u64 (y.num : Int)) := fun p => p.cell hbl ((hbb.cell (p := ⟨b, off + k * 3 + 1, none⟩) hb).trans y1)
          have f2 : ∀ p : WB wr, p.w.cell? ⟨b, off + k * 3 + 2, none⟩ = some (.string (str y.txt)) := fun p => p.cell hbl ((hbb.cell (p := ⟨b, off + k * 3 + 2, none⟩) hb).trans y2)
          have g0 : ∀ p : WB wr, p.w.cell? ⟨b, off + i * 3, none⟩ = some (.int .i64 z.kind) := fun p => p.cell hbl ((hbb.cell (p := ⟨b, off + i * 3, none⟩) hb).trans z0)
          have g1 : ∀ p : WB wr, p.w.cell? ⟨b, off + i * 3 + 1, none⟩ = some (.int .u64 (z.num : Int)) := fun p => p.cell hbl ((hbb.cell (p := ⟨b, off + i * 3 + 1, none⟩) hb).trans z1)
          have g2 : ∀ p : WB wr, p.w.cell? ⟨b, off + i * 3 + 2, none⟩ = some (.string (str z.txt)) := fun p => p.cell hbl ((hbb.cell (p := ⟨b, off + i * 3 + 2, none⟩) hb).trans z2)
          generalize C.less y z = yz at *
          generalize C.less z y = zy at *
          generalize y.kind = yk at *
          generalize y.num = yn at *
          generalize str y.txt = yx at *
          generalize z.kind = zk at *
          generalize z.num = zn at *
          generalize str z.txt = zx at *
          have F := Lib.hid (And.intro f0 (And.intro f1 (And.intro f2 (And.intro g0 (And.intro g1 g2)))))
          have HBK := Lib.hid hbk
          clear y0 y1 y2 hy hyl z0 z1 z2 hbb hbl hbk f0 f1 f2 g0 g1 g2
          cases hm1 : mn k
          all_goals
            cases hm2 : mx k
            all_goals
              rw [hm1] at hmn
              rw [hm2] at hmx
              have HMN2 := Lib.hid hmn
              have HMX2 := Lib.hid hmx
              obtain ⟨f0, f1, f2, g0, g1, g2⟩ := F.out
              clear hmn hmx hm1 hm2
              go_wp2_with fail
              refine wp_region_wbh (by kernel_rfl) (by kernel_rfl) ?_
              iterate 14 (refine wq_step (fun K hK => ?_); go_simp; first | (refine hK _ ?_; clear hK K) | (apply Exists.intro; refine ⟨fun _ => ?_, hK _ ?_⟩; (go_at_call 22; exact calls_wb (HYZ.out _)); clear hK K))
              refine wq_nil ?_
              rintro _ ⟨p, rfl⟩
              have hp := p.below
              have f0' : ∀ q : WB p.w, q.w.cell? ⟨b, off + k * 3, none⟩ = some (.int .i64 yk) := fun q => f0 ⟨q.w, below_then hp q.below⟩
              have f1' : ∀ q : WB p.w, q.w.cell? ⟨b, off + k * 3 + 1, none⟩ = some (.int .u64 (yn : Int)) := fun q => f1 ⟨q.w, below_then hp q.below⟩
              have f2' : ∀ q : WB p.w, q.w.cell? ⟨b, off + k * 3 + 2, none⟩ = some (.string yx) := fun q => f2 ⟨q.w, below_then hp q.below⟩
              have g0' : ∀ q : WB p.w, q.w.cell? ⟨b, off + i * 3, none⟩ = some (.int .i64 zk) := fun q => g0 ⟨q.w, below_then hp q.below⟩
              have g1' : ∀ q : WB p.w, q.w.cell? ⟨b, off + i * 3 + 1, none⟩ = some (.int .u64 (zn : Int)) := fun q => g1 ⟨q.w, below_then hp q.below⟩
              have g2' : ∀ q : WB p.w, q.w.cell? ⟨b, off + i * 3 + 2, none⟩ = some (.string zx) := fun q => g2 ⟨q.w, below_then hp q.below⟩
              have hbk2 := below_then HBK.out hp
              clear f0 f1 f2 g0 g1 g2
              generalize p.w = W4 at *
              clear hp p
              go_wp2_with fail
              refine wp_region_wbh (by kernel_rfl) (by kernel_rfl) ?_
              iterate 14 (refine wq_step (fun K hK => ?_); go_simp; first | (refine hK _ ?_; clear hK K) | (apply Exists.intro; refine ⟨fun _ => ?_, hK _ ?_⟩; (go_at_call 22; exact calls_wb (HZY.out _)); clear hK K))
              refine wq_nil ?_
              rintro _ ⟨p2, rfl⟩
              have hbk3 := below_then hbk2 p2.below
              clear f0' f1' f2' g0' g1' g2' hbk2
              generalize p2.w = W5 at *
              clear p2
              go_wp2_with fail
              exact ⟨⟨k + 1, by omega, by go_num, by rw [HMN2.out]; rfl, by rw [HMX2.out]; rfl, hbk3⟩, by simp [intOf]; omega⟩
        · obtain rfl : k = ds.length := by omega
          have hbb := hbw.trans (hbk.mono hbs)
          have q0 := (HS.out).next hbk
          unfold sx at q0
          simp only at q0
          have z0' := (hbb.cell (p := ⟨b, off + i * 3, none⟩) hb).trans z0
          have z1' := (hbb.cell (p := ⟨b, off + i * 3 + 1, none⟩) hb).trans z1
          have z2' := (hbb.cell (p := ⟨b, off + i * 3 + 2, none⟩) hb).trans z2
          have HQ := Lib.hid q0
          have HB := Lib.hid hbb
          have HPL2 := Lib.hid HPLi.out
          have HPM2 := Lib.hid HPMi.out
          clear q0 hbb HPLi HPMi
          cases e1 : mn ds.length
          all_goals
            cases e2 : mx ds.length
            all_goals
              rw [e1] at HPL2
              rw [e2] at HPM2
              clear e1 e2
          · rw [if_neg (by decide)] at HPL2 HPM2
            have q0 := HQ.out
            go_wp2_with fail
            exact ⟨⟨i + 1, by omega, by go_num, HB.out, by rw [HPL2.out, HPM2.out]; exact q0⟩, by simp [intOf]; omega⟩
          · rw [if_neg (by decide)] at HPL2
            rw [if_pos rfl] at HPM2
            obtain ⟨⟨a5, a6, a7⟩, ⟨b5, b6, b7⟩, q1⟩ := HQ.out.atMost (.int .i64 z.kind) (.int .u64 (z.num : Int)) (.string (str z.txt))
            have hb3 := below3 HB.out (Nat.le_refl _) 5 6 7 (.int .i64 z.kind) (.int .u64 (z.num : Int)) (.string (str z.txt))
            have HQ1 := Lib.hid q1
            have HB3 := Lib.hid hb3
            have HFIN := Lib.hid (show Oct _ w2.heap.size (sx ⟨l.length, (l.length : Int) - (ds.length : Int), S.pickL ds (i + 1), S.pickM ds (i + 1)⟩) by rw [HPL2.out, HPM2.out]; exact q1)
            clear q1 hb3 HPL2 HPM2
            generalize z.kind = zk at *
            generalize z.num = zn at *
            generalize str z.txt = zx at *
            go_wp2_with fail
            exact ⟨⟨i + 1, by omega, by go_num, HB3.out, HFIN.out⟩, by simp [intOf]; omega⟩
          · rw [if_pos rfl] at HPL2
            rw [if_neg (by decide)] at HPM2
            obtain ⟨⟨a2, a3, a4⟩, ⟨b2, b3, b4⟩, q1⟩ := HQ.out.atLeast (.int .i64 z.kind) (.int .u64 (z.num : Int)) (.string (str z.txt))
            have hb3 := below3 HB.out (Nat.le_refl _) 2 3 4 (.int .i64 z.kind) (.int .u64 (z.num : Int)) (.string (str z.txt))
            have HB3 := Lib.hid hb3
            have HFIN := Lib.hid (show Oct _ w2.heap.size (sx ⟨l.length, (l.length : Int) - (ds.length : Int), S.pickL ds (i + 1), S.pickM ds (i + 1)⟩) by rw [HPL2.out, HPM2.out]; exact q1)
            clear q1 hb3 HPL2 HPM2
            generalize z.kind = zk at *
            generalize z.num = zn at *
            generalize str z.txt = zx at *
            go_wp2_with fail
            exact ⟨⟨i + 1, by omega, by go_num, HB3.out, HFIN.out⟩, by simp [intOf]; omega⟩
          · rw [if_pos rfl] at HPL2 HPM2
            obtain ⟨⟨a2, a3, a4⟩, ⟨b2, b3, b4⟩, q1⟩ := HQ.out.atLeast (.int .i64 z.kind) (.int .u64 (z.num : Int)) (.string (str z.txt))
            have hb3 := below3 HB.out (Nat.le_refl _) 2 3 4 (.int .i64 z.kind) (.int .u64 (z.num : Int)) (.string (str z.txt))
            have c0 := (hb3.cell (p := ⟨b, off + i * 3, none⟩) hb).trans z0
            have c1 := (hb3.cell (p := ⟨b, off + i * 3 + 1, none⟩) hb).trans z1
            have c2 := (hb3.cell (p := ⟨b, off + i * 3 + 2, none⟩) hb).trans z2
            obtain ⟨⟨a5, a6, a7⟩, ⟨b5, b6, b7⟩, q2⟩ := q1.atMost (.int .i64 z.kind) (.int .u64 (z.num : Int)) (.string (str z.txt))
            have hb4 := below3 hb3 (Nat.le_refl _) 5 6 7 (.int .i64 z.kind) (.int .u64 (z.num : Int)) (.string (str z.txt))
            have HB4 := Lib.hid hb4
            have HFIN := Lib.hid (show Oct _ w2.heap.size (sx ⟨l.length, (l.length : Int) - (ds.length : Int), S.pickL ds (i + 1), S.pickM ds (i + 1)⟩) by rw [HPL2.out, HPM2.out]; exact q2)
            clear q1 q2 hb3 hb4 HPL2 HPM2
            generalize z.kind = zk at *
            generalize z.num = zn at *
            generalize str z.txt = zx at *
            go_wp2_with fail
            exact ⟨⟨i + 1, by omega, by go_num, HB4.out, HFIN.out⟩, by simp [intOf]; omega⟩
    · obtain rfl : i = ds.length := by omega
      rw [HPA.out.1, HPA.out.2] at hS
      have q0 := hS
      unfold sx at q0
      simp only at q0
      obtain ⟨x0, x1, x2, x3, x4, x5, x6, x7⟩ := q0.cells
      have hG3 : Oct wr G _ := (hbw.block G hG2l).trans hG2
      obtain ⟨⟨a0, a1, a2, a3, a4, a5, a6, a7⟩, ⟨b0, b1, b2, b3, b4, b5, b6, b7⟩, ⟨t0, t1, t2, t3, t4, t5, t6, t7⟩, _⟩ := hG3.store (.int .i64 (l.length : Int)) (.int .i64 ((l.length : Int) - (ds.length : Int))) (.int .i64 (S.least ds).kind) (.int .u64 ((S.least ds).num : Int)) (.string (str (S.least ds).txt)) (.int .i64 (S.most ds).kind) (.int .u64 ((S.most ds).num : Int)) (.string (str (S.most ds).txt))
      have hbf : Below w.heap.size w wr := hw2.trans (hbw.mono hw2.size)
      have HF := Lib.hid (Oct.below hbf hGw (.int .i64 (l.length : Int)) (.int .i64 ((l.length : Int) - (ds.length : Int))) (.int .i64 (S.least ds).kind) (.int .u64 ((S.least ds).num : Int)) (.string (str (S.least ds).txt)) (.int .i64 (S.most ds).kind) (.int .u64 ((S.most ds).num : Int)) (.string (str (S.most ds).txt)))
      have HR := Lib.hid (show sag R = .agg #[.int .i64 (l.length : Int), .int .i64 ((l.length : Int) - (ds.length : Int)), .int .i64 (S.least ds).kind, .int .u64 ((S.least ds).num : Int), .string (str (S.least ds).txt), .int .i64 (S.most ds).kind, .int .u64 ((S.most ds).num : Int), .string (str (S.most ds).txt)] by rw [HK.out]; rfl)
      generalize (S.least ds).kind = lk at *
      generalize (S.least ds).num = ln at *
      generalize str (S.least ds).txt = lx at *
      generalize (S.most ds).kind = mk at *
      generalize (S.most ds).num = mm at *
      generalize str (S.most ds).txt = mx at *
      clear hS q0 hG3 hbf
      go_wp2_with fail
      refine bodyPost_ret (v := .agg #[.int .i64 (l.length : Int), .int .i64 ((l.length : Int) - (ds.length : Int)), .int .i64 lk, .int .u64 (ln : Int), .string lx, .int .i64 mk, .int .u64 (mm : Int), .string mx]) (by simp [results, Try.results10, go_sem, t0, t1, t2, t3, t4, t5, t6, t7]) rfl ⟨by rw [HR.out], HF.out⟩
end Go.Proofs.Ytgkhkfmlldnogaa
