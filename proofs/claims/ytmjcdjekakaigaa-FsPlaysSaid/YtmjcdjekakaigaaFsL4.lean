/- The walk of FsPlays. -/
import Derived.Test.YtmjcdjekakaigaaFsB
import Derived.Test.YtmjcdjekakaigaaFsR9
import Derived.Test.YtmjcdjekakaigaaFsR12
import Derived.Test.YtmjcdjekakaigaaFsPut
import Derived.Test.YtmjcdjekakaigaaFsP7
namespace Go.Proofs.Ytmjcdjekakaigaa.Fs
open Go.RowKit
set_option linter.unusedVariables false

theorem rSame_refl (p q : At) (f : T) (w : World) (hf : Fss w w.heap.size p f) (hg : Fss w w.heap.size q f) :
    Calls Try.prog 17 #[fsV p f, fsV q f] w (BoolPost true w) := by
  have h := rSame_any p q f f w hf hg
  rwa [decide_eq_true rfl] at h
theorem ops_cut {w : World} {B : Nat} {ad : Addr} {l : List Op} (h : Ops w B (some ad) l) (k : Nat) : Ops w B (some (ad.add (k * 4))) (l.drop k) := by
  intro hne
  obtain ⟨b, off, e, _, _⟩ := h (fun e => hne (by rw [e]; simp))
  have e := Option.some.inj e
  subst e
  have hadd : (⟨b, off, none⟩ : Addr).add (k * 4) = ⟨b, off + k * 4, none⟩ := by unfold Addr.add; split <;> simp_all
  rw [hadd]
  exact h.drop k hne
set_option maxHeartbeats 8000000 in
set_option maxRecDepth 100000 in
theorem fsPlays_walk (w : World) (p : At) (f : T) (hf : Fss w w.heap.size p f) (a : Option Addr) (cap : Nat) (l : List Op) (hm : l.length ≤ maxLen) (hq : l.length ≤ cap ∧ cap ≤ maxLen ∧ (a = none → cap = 0)) (hx : ∀ x ∈ l, opOk x) (hu : Ops w w.heap.size a l) (k : Int) (hk : -9223372036854775808 ≤ k ∧ k ≤ 9223372036854775807) :
    Calls Try.prog 4 #[fsV p f, .slice a l.length cap, .int .i64 k] w (BoolPost true w) := by
  have hal := (Below.refl w.heap.size w).alloc (Nat.le_refl _) (.cells #[.slice p.an f.nodes.length p.cn, .slice p.ad f.dir.length p.cd, .slice p.ay f.syn.length p.cy] 25)
  have hT := bk_new w 25 #[.slice p.an f.nodes.length p.cn, .slice p.ad f.dir.length p.cd, .slice p.ay f.syn.length p.cy]
  have hF := hf.next hal
  have hU := hu.next opAt_firm hal
  obtain ⟨W0, hW0⟩ : ∃ W0, W0 = w.alloc (.cells #[.slice p.an f.nodes.length p.cn, .slice p.ad f.dir.length p.cd, .slice p.ay f.syn.length p.cy] 25) := ⟨_, rfl⟩
  rw [← hW0] at hal hT hF hU
  have HW := Lib.hid hW0.symm
  obtain ⟨TB, hTB⟩ : ∃ TB, TB = w.heap.size := ⟨_, rfl⟩
  rw [← hTB] at hT
  have HN3 := Lib.hid (show w.heap.size = TB by omega)
  have HT := Lib.hid hT
  have HF := Lib.hid hF
  have HU := Lib.hid hU
  have HAL := Lib.hid hal
  have HPL := Lib.hid (fun (q : At) (g : T) (A : Option Addr) (c : Nat) (m : List Op) (hmx : ∀ x ∈ m, opOk x) (hml : m.length ≤ maxLen) W (hg : Fss W W.heap.size q g) (hu : Ops W W.heap.size A m) => play_any q g A c m W hg hml hu hmx)
  have C1 := Lib.hid (fun W (hb : Below W0.heap.size W0 W) => play_any p f a cap l W (HF.out.next hb) hm (HU.out.next opAt_firm hb) hx)
  have C2 := Lib.hid (fun W (hb : Below W0.heap.size W0 W) => rPlay_any p f a cap l W (HF.out.next hb) hm (HU.out.next opAt_firm hb) hx)
  have C9 := Lib.hid (fun W => fsBegun_any W)
  have HLAW := Lib.hid (fun (h : (play f l).2 = 0) (k : Nat) => plays_law h k)
  have HBAD := Lib.hid (play_bad f l)
  have HX := Lib.hid hx
  have HM := Lib.hid hm
  have HQ := Lib.hid hq
  generalize play f l = R at *
  obtain ⟨g, er⟩ := R
  obtain ⟨an, cn, ad, cd, ay, cy⟩ := p
  obtain ⟨NL, hNL⟩ : ∃ NL, NL = l.length := ⟨_, rfl⟩
  rw [← hNL] at C1 C2 HM HQ ⊢
  have HNL := Lib.hid hNL
  unfold fsV at *
  simp only at *
  clear hW0 hf hx hm hq hu hT hF hU hal hTB hNL
  go_enter Try.func4, Try.ntmps4
  go_wp2_with fail
  rw [HW.out, HN3.out]
  have HB0 := Lib.hid (Below.refl W0.heap.size W0)
  obtain ⟨d0, d1, d2⟩ := HT.out.three
  go_wp2_with fail
  refine (C1.out _ HB0.out).mono ?_
  rintro e w1 ⟨nv, dv, sv, rfl, own, hb1⟩
  obtain ⟨p1, e1, e2, e3, hfs1⟩ := own.fss
  subst e1; subst e2; subst e3
  obtain ⟨an1, cn1, ad1, cd1, ay1, cy1⟩ := p1
  simp only at hfs1
  clear d0 d1 d2 own C1
  go_upto_region 2 with fail
  have hal1 := (Below.refl w1.heap.size w1).alloc (Nat.le_refl _) (.cells #[.slice an1 g.nodes.length cn1, .slice ad1 g.dir.length cd1, .slice ay1 g.syn.length cy1] 25)
  have HK1 := Lib.hid (bk_new w1 25 #[.slice an1 g.nodes.length cn1, .slice ad1 g.dir.length cd1, .slice ay1 g.syn.length cy1])
  have HG1 := Lib.hid (hfs1.next hal1)
  have HB1 := Lib.hid (below_then hb1 hal1)
  generalize w1.alloc (.cells #[.slice an1 g.nodes.length cn1, .slice ad1 g.dir.length cd1, .slice ay1 g.syn.length cy1] 25) = W1 at *
  generalize w1.heap.size = O1 at *
  clear hb1 hal1 hfs1
  obtain ⟨d0, d1, d2⟩ := (HT.out.next HB1.out).three
  go_wp2_with fail
  refine (C2.out _ HB1.out).mono ?_
  rintro e w2 ⟨p2, rfl, hfs2, hb2⟩
  obtain ⟨an2, cn2, ad2, cd2, ay2, cy2⟩ := p2
  simp only at hfs2
  clear d0 d1 d2 C2
  go_upto_region 3 with fail
  have hal2 := (Below.refl w2.heap.size w2).alloc (Nat.le_refl _) (.cells #[.slice an2 g.nodes.length cn2, .slice ad2 g.dir.length cd2, .slice ay2 g.syn.length cy2] 25)
  have HK2 := Lib.hid (bk_new w2 25 #[.slice an2 g.nodes.length cn2, .slice ad2 g.dir.length cd2, .slice ay2 g.syn.length cy2])
  have HG2 := Lib.hid (hfs2.next hal2)
  have hbx2 := below_then hb2 hal2
  have HB2 := Lib.hid (below_then HB1.out hbx2)
  have HK1 := Lib.hid (HK1.out.next hbx2)
  have HG1 := Lib.hid (HG1.out.next hbx2)
  generalize w2.alloc (.cells #[.slice an2 g.nodes.length cn2, .slice ad2 g.dir.length cd2, .slice ay2 g.syn.length cy2] 25) = W2 at *
  generalize w2.heap.size = O2 at *
  clear hb2 hal2 hfs2 hbx2 HB1
  go_wp2_with fail
  refine (C9.out _).mono ?_
  rintro e w3 ⟨rfl, hb3⟩
  have HK1 := Lib.hid (HK1.out.next hb3)
  have HG1 := Lib.hid (HG1.out.next hb3)
  have HK2 := Lib.hid (HK2.out.next hb3)
  have HG2 := Lib.hid (HG2.out.next hb3)
  have HB3 := Lib.hid (below_then HB2.out hb3)
  obtain ⟨x0, x1, x2⟩ := HK1.out.three
  obtain ⟨y0, y1, y2⟩ := HK2.out.three
  have HS1 := Lib.hid (rSame_refl ⟨an1, cn1, ad1, cd1, ay1, cy1⟩ ⟨an2, cn2, ad2, cd2, ay2, cy2⟩ g w3 HG1.out HG2.out)
  unfold fsV at HS1
  simp only at HS1
  clear hb3 HB2
  go_wp2_with fail
  refine (HS1.out).mono ?_
  rintro e w4 ⟨rfl, hb4⟩
  have HK1 := Lib.hid (HK1.out.next hb4)
  have HG1 := Lib.hid (HG1.out.next hb4)
  have HB4 := Lib.hid (below_then HB3.out hb4)
  have hend := HAL.out.trans (HB4.out.mono HAL.out.size)
  clear x0 x1 x2 y0 y1 y2 HS1 hb4 HB3 HK2 HG2
  by_cases he : er ≠ 0
  · have hne : ((er : Int) != 0) = true := by rw [bne_iff_ne]; omega
    clear HLAW HBAD he
    go_wp2_with fail
    go_ret
    exact ⟨rfl, hend⟩
  obtain rfl : er = 0 := by omega
  by_cases hk0 : k < 0
  · have hd : decide (k < 0) = true := decide_eq_true hk0
    clear HLAW HBAD he
    go_wp2_with fail
    go_ret
    exact ⟨rfl, hend⟩
  obtain ⟨q, rfl⟩ : ∃ q : Nat, k = q := ⟨k.toNat, by omega⟩
  have hd : decide ((q : Int) < 0) = false := decide_eq_false hk0
  by_cases hkn : NL < q
  · have hd2 : decide ((NL : Int) < (q : Int)) = true := decide_eq_true (by omega)
    clear HLAW HBAD he
    go_wp2_with fail
    go_ret
    exact ⟨rfl, hend⟩
  have hd2 : decide ((NL : Int) < (q : Int)) = false := decide_eq_false (by omega)
  obtain ⟨c, hc1, hc2⟩ := HLAW.out rfl q
  have HT4 := Lib.hid (HT.out.next HB4.out)
  have HF4 := Lib.hid (HF.out.next HB4.out)
  have HU4 := Lib.hid (HU.out.next opAt_firm HB4.out)
  have HLT := Lib.hid (show (l.take q).length = q by rw [List.length_take]; have := HNL.out; omega)
  have HLD := Lib.hid (show (l.drop q).length = NL - q by rw [List.length_drop, ← HNL.out])
  have C3 := Lib.hid (fun W (hb : Below w4.heap.size w4 W) => show Calls Try.prog 18 #[.agg #[.slice an f.nodes.length cn, .slice ad f.dir.length cd, .slice ay f.syn.length cy], .slice a q cap] W (FsPost (c, 0) W) by
    have h := HPL.out ⟨an, cn, ad, cd, ay, cy⟩ f a cap (l.take q) (fun x hx => HX.out x (List.mem_of_mem_take hx)) (by rw [HLT.out]; have := HM.out; omega) W (HF4.out.next hb) ((HU4.out.next opAt_firm hb).take q)
    rw [HLT.out, hc1] at h
    exact h)
  have HC2 := Lib.hid hc2
  have HMI := Lib.hid (show NL ≤ cap ∧ cap ≤ 9223372036854775807 from ⟨HQ.out.1, HQ.out.2.1⟩)
  have hmi1 := HMI.out.1
  have hmi2 := HMI.out.2
  have hqn : q ≤ NL := by omega
  have hqI : (q : Int) ≤ (cap : Int) := by omega
  have hself := Below.refl w4.heap.size w4
  have q0 : ∀ W, Below w4.heap.size w4 W → W.cell? ⟨TB, 0, none⟩ = some (.slice an f.nodes.length cn) := fun W hb => (HT4.out.next hb).three.1
  have q1 : ∀ W, Below w4.heap.size w4 W → W.cell? ⟨TB, 1, none⟩ = some (.slice ad f.dir.length cd) := fun W hb => (HT4.out.next hb).three.2.1
  have q2 : ∀ W, Below w4.heap.size w4 W → W.cell? ⟨TB, 2, none⟩ = some (.slice ay f.syn.length cy) := fun W hb => (HT4.out.next hb).three.2.2
  clear HLAW HBAD he hc1 hc2 HT HF HU HNL
  go_upto_region 7 with fail
  go_cut [11, 12] (fun t11 t12 wx => ∃ O p5, t11 = .pointer (some ⟨O, 0, none⟩) ∧ t12 = .int .i64 0 ∧ Hid (Put w4 wx O c p5))
  case first =>
    go_region_held3 (fun W => Below w4.heap.size w4 W)
      (first
        | assumption
        | exact (show Below w4.heap.size w4 _ by assumption).drew
        | exact (show Below w4.heap.size w4 _ by assumption).alloc (show Below w4.heap.size w4 _ by assumption).size _
        | exact hS9
        | exact hS9.drew
        | exact hS9.alloc hS9.size _
        | exact ((hS9.setCell (p := ⟨w4.heap.size, 0, none⟩) (Nat.le_refl _) _).setCell (p := ⟨w4.heap.size, 1, none⟩) (Nat.le_refl _) _).setCell (p := ⟨w4.heap.size, 2, none⟩) (Nat.le_refl _) _)
      (first
        | (go_at_call 18; refine Calls.mono (C3.out _ (by first | assumption | exact hself.drew)) ?_; rintro e w9 ⟨nv, dv, sv, rfl, own, hb9⟩; obtain ⟨p9, e1, e2, e3, -⟩ := own.fss; subst e1; subst e2; subst e3; have hS9 : Below w4.heap.size w4 w9 := Below.trans (show Below w4.heap.size w4 _ by assumption) (hb9.mono (show Below w4.heap.size w4 _ by assumption).size); (first | (have hz9 : Bk w9 w4.heap.size 25 #[.slice none 0 0, .slice none 0 0, .slice none 0 0] := (hb9.block w4.heap.size (bk_new w4 25 #[.slice none 0 0, .slice none 0 0, .slice none 0 0]).lt).trans (bk_new w4 25 #[.slice none 0 0, .slice none 0 0, .slice none 0 0]); obtain ⟨z0, z1, z2⟩ := hz9.three; have u0 := hz9.free 0; have u1 := hz9.free 1; have u2 := hz9.free 2; have l9 := hz9.lt) | skip)))
    · have hp := put_last own hS9
      obtain ⟨an9, cn9, ad9, cd9, ay9, cy9⟩ := p9
      go_wp2_with fail
      go_meet
      case rel => exact ⟨_, _, rfl, rfl, Lib.hid hp⟩
    · have hp := put_mid own hS9 (Nat.le_refl _) hz9
      obtain ⟨an9, cn9, ad9, cd9, ay9, cy9⟩ := p9
      go_wp2_with fail
      go_meet
      case rel => exact ⟨_, _, rfl, rfl, Lib.hid hp⟩
  case rest =>
    obtain ⟨O5, p5, rfl, rfl, HPU⟩ := hcut
    clear q0 q1 q2 C3
    obtain ⟨an5, cn5, ad5, cd5, ay5, cy5⟩ := p5
    have HB5 := Lib.hid (below_then HB4.out HPU.out.bel)
    have HK1 := Lib.hid (HK1.out.next HPU.out.bel)
    have HG1 := Lib.hid (HG1.out.next HPU.out.bel)
    have HU5 := Lib.hid (HU4.out.next opAt_firm HPU.out.bel)
    have HC5 := Lib.hid HPU.out.fs
    have HK5 := Lib.hid HPU.out.bk
    have C4 := Lib.hid (fun W A c' (hb : Below wc.heap.size wc W) (hA : Ops W W.heap.size A (l.drop q)) => show Calls Try.prog 18 #[.agg #[.slice an5 c.nodes.length cn5, .slice ad5 c.dir.length cd5, .slice ay5 c.syn.length cy5], .slice A (NL - q) c'] W (FsPost (g, 0) W) by
      have h := HPL.out ⟨an5, cn5, ad5, cd5, ay5, cy5⟩ c A c' (l.drop q) (fun x hx => HX.out x (List.mem_of_mem_drop hx)) (by rw [HLD.out]; have := HM.out; omega) W (HC5.out.next hb) hA
      rw [HLD.out, HC2.out] at h
      exact h)
    have q0 : ∀ W, Below wc.heap.size wc W → W.cell? ⟨O5, 0, none⟩ = some (.slice an5 c.nodes.length cn5) := fun W hb => (HK5.out.next hb).three.1
    have q1 : ∀ W, Below wc.heap.size wc W → W.cell? ⟨O5, 1, none⟩ = some (.slice ad5 c.dir.length cd5) := fun W hb => (HK5.out.next hb).three.2.1
    have q2 : ∀ W, Below wc.heap.size wc W → W.cell? ⟨O5, 2, none⟩ = some (.slice ay5 c.syn.length cy5) := fun W hb => (HK5.out.next hb).three.2.2
    have hself5 := Below.refl wc.heap.size wc
    have hc3 : (a = none ∧ cap = 0) ∨ (a ≠ none ∧ cap = q) ∨ (∃ b o t, a = some ⟨b, o, t⟩ ∧ cap ≠ q) := by
      cases a with
      | none => exact Or.inl ⟨rfl, HQ.out.2.2 rfl⟩
      | some ad0 =>
        obtain ⟨b, o, t⟩ := ad0
        by_cases h : cap = q
        · exact Or.inr (Or.inl ⟨by simp, h⟩)
        · exact Or.inr (Or.inr ⟨b, o, t, rfl, h⟩)
    clear HPU HPL HX HM C9 HF4 HU4 HT4 hself HB4 HC2 HC5
    go_upto_region 8 with fail
    go_cut [13, 14] (fun t13 t14 wx => ∃ O p6, t13 = .pointer (some ⟨O, 0, none⟩) ∧ t14 = .int .i64 0 ∧ Hid (Put wc wx O g p6))
    case first =>
      rcases hc3 with ⟨rfl, rfl⟩ | ⟨hra, rfl⟩ | ⟨bR, oR, tR, rfl, hcq⟩
      · have hz : l.drop q = [] := List.drop_eq_nil_of_le (by have := HLD.out; rw [List.length_drop] at this; omega)
        rw [hz] at C4
        have hq0 : q = 0 := by omega
        subst hq0
        have hn0 : NL = 0 := by omega
        subst hn0
        simp only [Nat.sub_self] at C4
        clear hkn hz hqn hqI hmi1 hmi2 HMI HLT HLD HQ HU5
        go_region_held3 (fun W => Below wc.heap.size wc W)
          (first
            | assumption
            | exact (show Below wc.heap.size wc _ by assumption).drew
            | exact (show Below wc.heap.size wc _ by assumption).alloc (show Below wc.heap.size wc _ by assumption).size _
            | exact hS9
            | exact hS9.drew
            | exact hS9.alloc hS9.size _
            | exact ((hS9.setCell (p := ⟨wc.heap.size, 0, none⟩) (Nat.le_refl _) _).setCell (p := ⟨wc.heap.size, 1, none⟩) (Nat.le_refl _) _).setCell (p := ⟨wc.heap.size, 2, none⟩) (Nat.le_refl _) _)
          (first
            | (go_at_call 18; refine Calls.mono (C4.out _ none 0 (by first | assumption | exact hself5.drew) (Sl.nil _ _ _)) ?_; rintro e w9 ⟨nv, dv, sv, rfl, own, hb9⟩; obtain ⟨p9, e1, e2, e3, -⟩ := own.fss; subst e1; subst e2; subst e3; have hS9 : Below wc.heap.size wc w9 := Below.trans (show Below wc.heap.size wc _ by assumption) (hb9.mono (show Below wc.heap.size wc _ by assumption).size); (first | (have hz9 : Bk w9 wc.heap.size 25 #[.slice none 0 0, .slice none 0 0, .slice none 0 0] := (hb9.block wc.heap.size (bk_new wc 25 #[.slice none 0 0, .slice none 0 0, .slice none 0 0]).lt).trans (bk_new wc 25 #[.slice none 0 0, .slice none 0 0, .slice none 0 0]); obtain ⟨z0, z1, z2⟩ := hz9.three; have u0 := hz9.free 0; have u1 := hz9.free 1; have u2 := hz9.free 2; have l9 := hz9.lt) | skip)))
        · have hp := put_last own hS9
          obtain ⟨an9, cn9, ad9, cd9, ay9, cy9⟩ := p9
          go_wp2_with fail
          go_meet
          case rel => exact ⟨_, _, rfl, rfl, Lib.hid hp⟩
        · have hp := put_mid own hS9 (Nat.le_refl _) hz9
          obtain ⟨an9, cn9, ad9, cd9, ay9, cy9⟩ := p9
          go_wp2_with fail
          go_meet
          case rel => exact ⟨_, _, rfl, rfl, Lib.hid hp⟩
      · have hz : l.drop cap = [] := List.drop_eq_nil_of_le (by have := HLD.out; rw [List.length_drop] at this; omega)
        have hz2 : NL - cap = 0 := by omega
        rw [hz, hz2] at C4
        obtain ⟨⟨bR, oR, tR⟩, rfl⟩ := Option.ne_none_iff_exists'.1 hra
        clear hz hz2 hra HLT HLD HQ HU5 HMI
        go_region_held3 (fun W => Below wc.heap.size wc W)
          (first
            | assumption
            | exact (show Below wc.heap.size wc _ by assumption).drew
            | exact (show Below wc.heap.size wc _ by assumption).alloc (show Below wc.heap.size wc _ by assumption).size _
            | exact hS9
            | exact hS9.drew
            | exact hS9.alloc hS9.size _
            | exact ((hS9.setCell (p := ⟨wc.heap.size, 0, none⟩) (Nat.le_refl _) _).setCell (p := ⟨wc.heap.size, 1, none⟩) (Nat.le_refl _) _).setCell (p := ⟨wc.heap.size, 2, none⟩) (Nat.le_refl _) _)
          (first
            | (go_at_call 18; refine Calls.mono (C4.out _ (some ⟨bR, oR, tR⟩) 0 (by first | assumption | exact hself5.drew) (Sl.nil _ _ _)) ?_; rintro e w9 ⟨nv, dv, sv, rfl, own, hb9⟩; obtain ⟨p9, e1, e2, e3, -⟩ := own.fss; subst e1; subst e2; subst e3; have hS9 : Below wc.heap.size wc w9 := Below.trans (show Below wc.heap.size wc _ by assumption) (hb9.mono (show Below wc.heap.size wc _ by assumption).size); (first | (have hz9 : Bk w9 wc.heap.size 25 #[.slice none 0 0, .slice none 0 0, .slice none 0 0] := (hb9.block wc.heap.size (bk_new wc 25 #[.slice none 0 0, .slice none 0 0, .slice none 0 0]).lt).trans (bk_new wc 25 #[.slice none 0 0, .slice none 0 0, .slice none 0 0]); obtain ⟨z0, z1, z2⟩ := hz9.three; have u0 := hz9.free 0; have u1 := hz9.free 1; have u2 := hz9.free 2; have l9 := hz9.lt) | skip)))
        · have hp := put_last own hS9
          obtain ⟨an9, cn9, ad9, cd9, ay9, cy9⟩ := p9
          go_wp2_with fail
          go_meet
          case rel => exact ⟨_, _, rfl, rfl, Lib.hid hp⟩
        · have hp := put_mid own hS9 (Nat.le_refl _) hz9
          obtain ⟨an9, cn9, ad9, cd9, ay9, cy9⟩ := p9
          go_wp2_with fail
          go_meet
          case rel => exact ⟨_, _, rfl, rfl, Lib.hid hp⟩
      · have HCUT := Lib.hid (fun W (hb : Below wc.heap.size wc W) => ops_cut (HU5.out.next opAt_firm hb) q)
        have hqc : q ≤ cap := by omega
        clear HLT HLD HQ HU5 HMI
        go_region_held3 (fun W => Below wc.heap.size wc W)
          (first
            | assumption
            | exact (show Below wc.heap.size wc _ by assumption).drew
            | exact (show Below wc.heap.size wc _ by assumption).alloc (show Below wc.heap.size wc _ by assumption).size _
            | exact hS9
            | exact hS9.drew
            | exact hS9.alloc hS9.size _
            | exact ((hS9.setCell (p := ⟨wc.heap.size, 0, none⟩) (Nat.le_refl _) _).setCell (p := ⟨wc.heap.size, 1, none⟩) (Nat.le_refl _) _).setCell (p := ⟨wc.heap.size, 2, none⟩) (Nat.le_refl _) _)
          (first
            | (go_at_call 18; refine Calls.mono (C4.out _ _ _ (by first | assumption | exact hself5.drew) ?_) ?_; (first | exact HCUT.out _ (by first | assumption | exact hself5.drew)); rintro e w9 ⟨nv, dv, sv, rfl, own, hb9⟩; obtain ⟨p9, e1, e2, e3, -⟩ := own.fss; subst e1; subst e2; subst e3; have hS9 : Below wc.heap.size wc w9 := Below.trans (show Below wc.heap.size wc _ by assumption) (hb9.mono (show Below wc.heap.size wc _ by assumption).size); (first | (have hz9 : Bk w9 wc.heap.size 25 #[.slice none 0 0, .slice none 0 0, .slice none 0 0] := (hb9.block wc.heap.size (bk_new wc 25 #[.slice none 0 0, .slice none 0 0, .slice none 0 0]).lt).trans (bk_new wc 25 #[.slice none 0 0, .slice none 0 0, .slice none 0 0]); obtain ⟨z0, z1, z2⟩ := hz9.three; have u0 := hz9.free 0; have u1 := hz9.free 1; have u2 := hz9.free 2; have l9 := hz9.lt) | skip)))
        · have hp := put_last own hS9
          obtain ⟨an9, cn9, ad9, cd9, ay9, cy9⟩ := p9
          go_wp2_with fail
          go_meet
          case rel => exact ⟨_, _, rfl, rfl, Lib.hid hp⟩
        · have hp := put_mid own hS9 (Nat.le_refl _) hz9
          obtain ⟨an9, cn9, ad9, cd9, ay9, cy9⟩ := p9
          go_wp2_with fail
          go_meet
          case rel => exact ⟨_, _, rfl, rfl, Lib.hid hp⟩
    case rest =>
      obtain ⟨O6, p6, rfl, rfl, HPU⟩ := hcut
      obtain ⟨an6, cn6, ad6, cd6, ay6, cy6⟩ := p6
      rename World => wd
      have HB6 := Lib.hid (below_then HB5.out HPU.out.bel)
      have HK1 := Lib.hid (HK1.out.next HPU.out.bel)
      have HG1 := Lib.hid (HG1.out.next HPU.out.bel)
      obtain ⟨x0, x1, x2⟩ := HK1.out.three
      obtain ⟨y0, y1, y2⟩ := HPU.out.bk.three
      have HS := Lib.hid (rSame_refl ⟨an6, cn6, ad6, cd6, ay6, cy6⟩ ⟨an1, cn1, ad1, cd1, ay1, cy1⟩ g wd HPU.out.fs HG1.out)
      unfold fsV at HS
      simp only at HS y0 y1 y2
      clear q0 q1 q2 C4 hc3
      go_wp2_with fail
      refine (HS.out).mono ?_
      rintro e w8 ⟨rfl, hb8⟩
      have hend2 := HAL.out.trans ((below_then HB6.out hb8).mono HAL.out.size)
      clear x0 x1 x2 y0 y1 y2 hb8
      go_wp2_with fail
      go_ret
      exact ⟨by first | rfl | simp, hend2⟩
end Go.Proofs.Ytmjcdjekakaigaa.Fs
