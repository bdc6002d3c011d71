/- fs.Check. -/
import Derived.Test.YtmjcdjekakaigaaFsMap
import Derived.Deep.RegionWith
namespace Go.Proofs.Ytmjcdjekakaigaa.Fs
open Go.RowKit
set_option linter.unusedVariables false

theorem check_many {f : T} (h : 24 < f.nodes.length) : check f = 2 := by unfold check; rw [if_pos h]
theorem check_big {f : T} (h : ¬ 24 < f.nodes.length) (h2 : f.nodes.any big = true) : check f = 2 := by unfold check; rw [if_neg h, if_pos h2]
theorem check_dir {f : T} (h : ¬ 24 < f.nodes.length) (h2 : f.nodes.any big = false) (h3 : dirC f.nodes.length [] f.dir ≠ 0) : check f = dirC f.nodes.length [] f.dir := by
  unfold check; rw [if_neg h, if_neg (by rw [h2]; simp), if_pos h3]
theorem check_syn {f : T} (h : ¬ 24 < f.nodes.length) (h2 : f.nodes.any big = false) (h3 : dirC f.nodes.length [] f.dir = 0) (h4 : dirC f.nodes.length [] f.syn ≠ 0) : check f = dirC f.nodes.length [] f.syn := by
  unfold check; rw [if_neg h, if_neg (by rw [h2]; simp), if_neg (by rw [h3]; simp), if_pos h4]
theorem check_end {f : T} (h : ¬ 24 < f.nodes.length) (h2 : f.nodes.any big = false) (h3 : dirC f.nodes.length [] f.dir = 0) (h4 : dirC f.nodes.length [] f.syn = 0) : check f = if allN f = false then 4 else 0 := by
  unfold check; rw [if_neg h, if_neg (by rw [h2]; simp), if_neg (by rw [h3]; simp), if_neg (by rw [h4]; simp)]
theorem big_step {l : List Nd} {j : Nat} (hj : j < l.length) (h0 : (l.take j).any big = false) (h : big (l.getD j nulN) = false) : (l.take (j + 1)).any big = false := by
  rw [take_snoc l nulN j hj, any_snoc, h0, h]; rfl
theorem big_hit {l : List Nd} {j : Nat} (hj : j < l.length) (h : big (l.getD j nulN) = true) : l.any big = true := List.any_eq_true.2 ⟨_, getD_mem l nulN j hj, h⟩

set_option maxHeartbeats 4000000 in
set_option maxRecDepth 100000 in
theorem check_any (p : At) (f : T) (w : World) (h : Fss w w.heap.size p f) :
    Calls Try.prog 15 #[fsV p f] w (NumPost (check f) w) := by
  have hal : Below w.heap.size w (w.alloc (.cells #[.slice p.an f.nodes.length p.cn, .slice p.ad f.dir.length p.cd, .slice p.ay f.syn.length p.cy] 25)) := (Below.refl _ _).alloc (Nat.le_refl _) _
  have hT : Bk (w.alloc (.cells #[.slice p.an f.nodes.length p.cn, .slice p.ad f.dir.length p.cd, .slice p.ay f.syn.length p.cy] 25)) w.heap.size 25 #[.slice p.an f.nodes.length p.cn, .slice p.ad f.dir.length p.cd, .slice p.ay f.syn.length p.cy] := bk_new _ _ _
  obtain ⟨b0, b1, b2⟩ := hT.three
  have HF := Lib.hid (h.next hal)
  have HT := Lib.hid hT
  have hs0 := hal.size
  obtain ⟨an, cn, ad, cd, ay, cy⟩ := p
  have E1 := Lib.hid (fun h => check_many (f := f) h)
  have E2 := Lib.hid (fun h h2 => check_big (f := f) h h2)
  have E3 := Lib.hid (fun h h2 h3 => check_dir (f := f) h h2 h3)
  have E4 := Lib.hid (fun h h2 h3 h4 => check_syn (f := f) h h2 h3 h4)
  have E5 := Lib.hid (fun h h2 h3 h4 => check_end (f := f) h h2 h3 h4)
  have HN := Lib.hid (show ¬ 24 < f.nodes.length → dirC f.nodes.length [] f.dir = 0 → dirC f.nodes.length [] f.syn = 0 → (f.dir.length ≤ 1048576 ∧ f.syn.length ≤ 1048576 ∧ (Maps.size (Maps.setOf z0 (accOf (f.dir ++ f.syn))) < f.nodes.length ↔ allN f = false)) from fun h h3 h4 => by
    have h3 := (dirC_ok _ _).1 h3
    have h4 := (dirC_ok _ _).1 h4
    have l3 := dir_len h3
    have l4 := dir_len h4
    refine ⟨by omega, by omega, size_acc (fun x hx => ?_)⟩
    rcases List.mem_append.1 hx with hx | hx
    · exact h3.rg x hx
    · exact h4.rg x hx)
  have HCL := Lib.hid (check_lt f)
  have hnc := h.ncap.2.1
  have hnl := h.ncap.1
  unfold maxLen at hnc
  unfold fsV
  simp only at *
  clear h hT
  by_cases g1 : 24 < f.nodes.length
  · have hR := Lib.hid (E1.out g1)
    have q1 : decide ((24 : Int) < (f.nodes.length : Int)) = true := decide_eq_true (by omega)
    go_enter Try.func15, Try.ntmps15
    go_wp2_with fail
    go_ret
    exact ⟨by rw [hR.out]; rfl, hal⟩
  have q1 : decide ((24 : Int) < (f.nodes.length : Int)) = false := decide_eq_false (by omega)
  have G1 := Lib.hid g1
  have HS1 := Lib.hid (fun j (hj : j < f.nodes.length) h0 h => big_step (l := f.nodes) hj h0 h)
  have HS2 := Lib.hid (fun j (hj : j < f.nodes.length) h => big_hit (l := f.nodes) hj h)
  go_enter Try.func15, Try.ntmps15
  go_wp2_with fail
  obtain ⟨W1, hW1⟩ : ∃ W1, W1 = w.alloc (.cells #[.slice an f.nodes.length cn, .slice ad f.dir.length cd, .slice ay f.syn.length cy] 25) := ⟨_, rfl⟩
  rw [← hW1] at HF HT hal hs0 b0 b1 b2 ⊢
  have hTl := HT.out.lt
  clear hW1 b0 b1 b2
  go_loopw [17] (fun i wr => ∃ k : Nat, k ≤ f.nodes.length ∧ i = .int .i64 k ∧ Below W1.heap.size W1 wr ∧ Hid ((f.nodes.take k).any big = false)) (fun i _ => f.nodes.length - (intOf i).toNat)
  case atStart => exact ⟨0, by omega, rfl, Below.refl _ _, Lib.hid (by simp)⟩
  case round =>
    obtain ⟨k, hk, rfl, hbw, HJ⟩ := hrel
    by_cases hlt : k < f.nodes.length
    · obtain ⟨bb, off, rfl, hbb, hcc⟩ := HF.out.nds (fun e => by rw [e] at hlt; simp at hlt)
      obtain ⟨k0, k1⟩ := hcc k hlt
      have c0 := (hbw.cell (p := ⟨bb, off + k * 2, none⟩) hbb).trans k0
      have c1 := (hbw.cell (p := ⟨bb, off + k * 2 + 1, none⟩) hbb).trans k1
      have hkI : (k : Int) < (f.nodes.length : Int) := by omega
      have hh := HS2.out k hlt
      have hn := HS1.out k hlt HJ.out
      have hbA : ∀ X Y : ByteArray, Below W1.heap.size W1 (wr.alloc (.cells #[.string X, .string Y] 49)) := fun X Y => hbw.alloc hbw.size _
      unfold big at hh hn
      have z1 := str_size (f.nodes.getD k nulN).live
      have z2 := str_size (f.nodes.getD k nulN).syn
      rw [← z1, ← z2] at hh hn
      generalize str (f.nodes.getD k nulN).live = X at *
      generalize str (f.nodes.getD k nulN).syn = Y at *
      clear k0 k1 hcc z1 z2
      by_cases o1 : 65536 < X.size
      · have hF := Lib.hid (E2.out G1.out (hh (by rw [decide_eq_true o1]; rfl)))
        have q2 : decide ((65536 : Int) < (X.size : Int)) = true := decide_eq_true (by omega)
        clear hh hn
        go_wp2_with fail
        go_ret
        exact ⟨by rw [hF.out]; rfl, hal.trans ((hbA X Y).mono hs0)⟩
      · have q2 : decide ((65536 : Int) < (X.size : Int)) = false := decide_eq_false (by omega)
        by_cases o2 : 65536 < Y.size
        · have hF := Lib.hid (E2.out G1.out (hh (by rw [decide_eq_true o2]; simp)))
          have q3 : decide ((65536 : Int) < (Y.size : Int)) = true := decide_eq_true (by omega)
          clear hh hn
          go_wp2_with fail
          go_ret
          exact ⟨by rw [hF.out]; rfl, hal.trans ((hbA X Y).mono hs0)⟩
        · have hN := Lib.hid (hn (by rw [decide_eq_false o1, decide_eq_false o2]; rfl))
          have q3 : decide ((65536 : Int) < (Y.size : Int)) = false := decide_eq_false (by omega)
          clear hh hn
          go_wp2_with fail
          exact ⟨⟨k + 1, by omega, by go_num, hbA X Y, hN⟩, by simp [intOf]; omega⟩
    · obtain rfl : k = f.nodes.length := by omega
      have HNB := Lib.hid (show f.nodes.any big = false by have := HJ.out; rwa [List.take_length] at this)
      obtain ⟨d0, d1, d2⟩ := (HT.out.next hbw).three
      have hTw := Nat.lt_of_lt_of_le hTl hbw.size
      clear HJ
      go_wp2_with fail
      obtain ⟨W2, hW2⟩ : ∃ W2, W2 = wr.alloc (.cells #[.slice ad f.dir.length cd, .slice ay f.syn.length cy] 23) := ⟨_, rfl⟩
      obtain ⟨L, hL⟩ : ∃ L, L = wr.heap.size := ⟨_, rfl⟩
      have hB2 := bk_new wr 23 #[.slice ad f.dir.length cd, .slice ay f.syn.length cy]
      have hal2 : Below wr.heap.size wr (wr.alloc (.cells #[.slice ad f.dir.length cd, .slice ay f.syn.length cy] 23)) := (Below.refl _ _).alloc (Nat.le_refl _) _
      rw [← hW2] at hB2 hal2 ⊢
      rw [← hL] at hB2 ⊢
      have HB2 := Lib.hid hB2
      have HT2 := Lib.hid ((HT.out.next hbw).next hal2)
      have HF2 := Lib.hid ((HF.out.next hbw).next hal2)
      have hbW2 : Below W1.heap.size W1 W2 := below_then hbw hal2
      have HBW2 := Lib.hid (show Below w.heap.size w W2 from hal.trans (hbW2.mono hs0))
      have hTW2 := HT2.out.lt
      have hLW2 := HB2.out.lt
      clear d0 d1 d2 hW2 hL hB2 hal2 hbw hbW2 hTw hTl hal hs0 HT HF
      go_loopw [38] (fun i wr => ∃ k : Nat, k ≤ 2 ∧ i = .int .i64 k ∧ Below W2.heap.size W2 wr ∧ Hid ((1 ≤ k → dirC f.nodes.length [] f.dir = 0) ∧ (2 ≤ k → dirC f.nodes.length [] f.syn = 0))) (fun i _ => 2 - (intOf i).toNat)
      case atStart => exact ⟨0, by omega, rfl, Below.refl _ _, Lib.hid ⟨fun h => absurd h (by omega), fun h => absurd h (by omega)⟩⟩
      case round =>
        obtain ⟨k, hk, rfl, hbw, HJ⟩ := hrel
        by_cases hlt : k < 2
        · obtain ⟨l, a, c, hcell, hens, hln, hok, hbad, hnext⟩ : ∃ (l : List En) (a : Option Addr) (c : Nat), W2.cell? ⟨L, k, none⟩ = some (.slice a l.length c) ∧ Ens W2 W2.heap.size a l ∧ capOk l.length c a ∧ (∀ x ∈ l, enOk x) ∧ (dirC f.nodes.length [] l ≠ 0 → check f = dirC f.nodes.length [] l) ∧ (dirC f.nodes.length [] l = 0 → (1 ≤ k + 1 → dirC f.nodes.length [] f.dir = 0) ∧ (2 ≤ k + 1 → dirC f.nodes.length [] f.syn = 0)) := by
            have hk2 : k = 0 ∨ k = 1 := by omega
            rcases hk2 with rfl | rfl
            · exact ⟨f.dir, ad, cd, HB2.out.two.1, HF2.out.dir, HF2.out.dcap, HF2.out.dok, fun h => E3.out G1.out HNB.out h, fun h => ⟨fun _ => h, fun hh => absurd hh (by omega)⟩⟩
            · exact ⟨f.syn, ay, cy, HB2.out.two.2, HF2.out.syn, HF2.out.scap, HF2.out.sok, fun h => E4.out G1.out HNB.out (HJ.out.1 (by omega)) h, fun h => ⟨fun _ => HJ.out.1 (by omega), fun _ => h⟩⟩
          have hLc := (hbw.cell (p := ⟨L, k, none⟩) hLW2).trans hcell
          have hkI : (k : Int) < 2 := by omega
          have HENS := Lib.hid hens
          have HOK := Lib.hid (fun j (hj : j < l.length) => hok _ (getD_mem l nulE j hj))
          have HBAD := Lib.hid hbad
          have HNEXT := Lib.hid hnext
          have HST := Lib.hid (fun j hj => dirC_step f.nodes.length l j hj)
          have HEN := Lib.hid (dirC_end f.nodes.length l)
          obtain ⟨hlc, hcm, -⟩ := hln
          have hlm : l.length ≤ maxLen := Nat.le_trans hlc hcm
          have HLM := Lib.hid hlm
          unfold maxLen at hcm hlm
          have hH0 : Hid (dirC f.nodes.length [] l = dirC f.nodes.length (l.take 0) (l.drop 0)) := rfl
          generalize dirC f.nodes.length [] l = R at *
          clear hcell hens hok hbad hnext
          go_wp2_with fail
          have HBK := Lib.hid hbw
          have HJ1 := Lib.hid HNEXT.out
          go_loopw [44] (fun i wr => ∃ j : Nat, j ≤ l.length ∧ i = .int .i64 j ∧ Below W2.heap.size W2 wr ∧ Hid (R = dirC f.nodes.length (l.take j) (l.drop j))) (fun i _ => l.length - (intOf i).toNat)
          case atStart => exact ⟨0, by omega, rfl, hbw, hH0⟩
          case round =>
            obtain ⟨j, hj, rfl, hbw, HR⟩ := hrel
            by_cases hlt2 : j < l.length
            · obtain ⟨bb, off, rfl, hbb, hcc⟩ := HENS.out (fun e => by rw [e] at hlt2; simp at hlt2)
              obtain ⟨k0, k1⟩ := hcc j hlt2
              have c0 := (hbw.cell (p := ⟨bb, off + j * 2, none⟩) hbb).trans k0
              have c1 := (hbw.cell (p := ⟨bb, off + j * 2 + 1, none⟩) hbb).trans k1
              have hjI : (j : Int) < (l.length : Int) := by omega
              have hal3 : Below W2.heap.size W2 (wr.alloc (.cells #[.string (str (l.getD j nulE).name), .int .i64 (l.getD j nulE).node] 47)) := hbw.alloc hbw.size _
              have hT3 := bk_new wr 47 #[.string (str (l.getD j nulE).name), .int .i64 (l.getD j nulE).node]
              obtain ⟨t0, t1⟩ := hT3.two
              obtain ⟨d0, d1, d2⟩ := (HT2.out.next hal3).three
              have hTj : (l.take j).length = j := by rw [List.length_take]; omega
              have HC := Lib.hid (fun W (hb : Below (wr.alloc (.cells #[.string (str (l.getD j nulE).name), .int .i64 (l.getD j nulE).node] 47)).heap.size (wr.alloc (.cells #[.string (str (l.getD j nulE).name), .int .i64 (l.getD j nulE).node] 47)) W) => entry_any (some ⟨bb, off, none⟩) c f.nodes.length (l.take j) (l.getD j nulE) W (by rw [hTj]; exact Nat.le_trans hj HLM.out) (by unfold maxLen; omega) (HOK.out j hlt2) (((HENS.out.take j).next enAt_firm hal3).next enAt_firm hb))
              have hst := HST.out j hlt2
              rw [hTj] at HC
              unfold enV at HC
              generalize hEr : entE f.nodes.length (l.take j) (l.getD j nulE) = er at *
              have her := entE_lt f.nodes.length (l.take j) (l.getD j nulE)
              rw [hEr] at her
              generalize (l.getD j nulE).node = z at *
              generalize str (l.getD j nulE).name = X at *
              have hjc : j ≤ c := by omega
              have HAL3 := Lib.hid hal3
              clear k0 k1 hcc hT3 hEr
              by_cases he : er = 0
              · have g2 : ((er : Int) != 0) = false := by rw [he]; rfl
                have HN2 := Lib.hid (show R = dirC f.nodes.length (l.take (j + 1)) (l.drop (j + 1)) by rw [HR.out, hst, if_neg (by simp [he])])
                clear hst he
                go_wp2_with fail
                go_region_with (go_at_call 33; refine (HC.out _ (below_drewN (Below.refl _ _) 1)).mono ?_; rintro e w5 ⟨rfl, hb5⟩)
                all_goals (go_wp2_with fail; exact ⟨⟨j + 1, by omega, by go_num, HAL3.out.trans ((below_then (below_drewN (Below.refl _ _) 1) hb5).mono HAL3.out.size), HN2⟩, by simp [intOf]; omega⟩)
              · have g2 : ((er : Int) != 0) = true := by rw [bne_iff_ne]; omega
                have HF5 := Lib.hid (show check f = er by
                  have h1 : R = er := by rw [HR.out, hst, if_pos (by simp [he])]
                  rw [← h1]; exact HBAD.out (by rw [h1]; exact he))
                clear hst he
                go_wp2_with fail
                go_region_with (go_at_call 33; refine (HC.out _ (below_drewN (Below.refl _ _) 1)).mono ?_; rintro e w5 ⟨rfl, hb5⟩)
                all_goals (go_wp2_with fail; go_ret; exact ⟨by rw [HF5.out]; rfl, HBW2.out.trans ((HAL3.out.trans ((below_then (below_drewN (Below.refl _ _) 1) hb5).mono HAL3.out.size)).mono HBW2.out.size)⟩)
            · obtain rfl : j = l.length := by omega
              have HR0 := Lib.hid (HR.out.trans HEN.out)
              have HNX := Lib.hid (HNEXT.out HR0.out)
              go_wp2_with fail
              exact ⟨⟨k + 1, by omega, by go_num, hbw, HNX⟩, by simp [intOf]; omega⟩
        · obtain rfl : k = 2 := by omega
          obtain ⟨j1, j2⟩ := HJ.out
          have HJ1 := Lib.hid (j1 (by omega))
          have HJ2 := Lib.hid (j2 (by omega))
          obtain ⟨n1, n2, n3⟩ := HN.out G1.out HJ1.out HJ2.out
          have HE := Lib.hid (E5.out G1.out HNB.out HJ1.out HJ2.out)
          obtain ⟨d0, d1, d2⟩ := (HT2.out.next hbw).three
          have hdm := fun m => ((HT2.out.next hbw).next (below_drewN (Below.refl _ _) m)).three
          have HST := Lib.hid (fun W (hb : Below wr.heap.size wr W) => staying_any ⟨an, cn, ad, cd, ay, cy⟩ f W n1 n2 ((HF2.out.next hbw).next hb))
          have HNN := Lib.hid n3
          have HWR := Lib.hid (HBW2.out.trans (hbw.mono HBW2.out.size))
          have hTl := (HT2.out.next hbw).lt
          have HT6 := Lib.hid (HT2.out.next hbw)
          clear n3 j1 j2 HJ
          go_wp2_with fail
          unfold StayPost at HST
          by_cases ha : allN f = false
          · have hsz := HNN.out.2 ha
            rw [if_pos ha] at HE
            have q5 : decide ((Maps.size (Maps.setOf z0 (accOf (f.dir ++ f.syn))) : Int) < (f.nodes.length : Int)) = true := decide_eq_true (by omega)
            have q6 : decide (Maps.size (Maps.setOf z0 (accOf (f.dir ++ f.syn))) < f.nodes.length) = true := decide_eq_true (by omega)
            clear hsz ha
            generalize Maps.setOf z0 (accOf (f.dir ++ f.syn)) = D at *
            go_region_with (go_at_call 34; refine (HST.out _ (below_drewN (Below.refl _ _) 1)).mono ?_; rintro e w5 ⟨M, rfl, hMw, hown, hb5⟩; have hlen := World.ownsMap.len hown Try.underlying66 3; obtain ⟨e0, e1, e2⟩ := (HT6.out.next (below_then (below_drewN (Below.refl _ _) 1) hb5)).three)
            all_goals (go_wp2_with fail; go_ret; exact ⟨by rw [HE.out]; rfl, HWR.out.trans ((below_then (below_drewN (Below.refl _ _) 1) hb5).mono HWR.out.size)⟩)
          · have hsz : ¬ Maps.size (Maps.setOf z0 (accOf (f.dir ++ f.syn))) < f.nodes.length := fun hh => ha (HNN.out.1 hh)
            rw [if_neg ha] at HE
            have q5 : decide ((Maps.size (Maps.setOf z0 (accOf (f.dir ++ f.syn))) : Int) < (f.nodes.length : Int)) = false := decide_eq_false (by omega)
            have q6 : decide (Maps.size (Maps.setOf z0 (accOf (f.dir ++ f.syn))) < f.nodes.length) = false := decide_eq_false (by omega)
            clear hsz ha
            generalize Maps.setOf z0 (accOf (f.dir ++ f.syn)) = D at *
            go_region_with (go_at_call 34; refine (HST.out _ (below_drewN (Below.refl _ _) 1)).mono ?_; rintro e w5 ⟨M, rfl, hMw, hown, hb5⟩; have hlen := World.ownsMap.len hown Try.underlying66 3; obtain ⟨e0, e1, e2⟩ := (HT6.out.next (below_then (below_drewN (Below.refl _ _) 1) hb5)).three)
            all_goals (go_wp2_with fail; go_ret; exact ⟨by rw [HE.out]; rfl, HWR.out.trans ((below_then (below_drewN (Below.refl _ _) 1) hb5).mono HWR.out.size)⟩)
end Go.Proofs.Ytmjcdjekakaigaa.Fs
