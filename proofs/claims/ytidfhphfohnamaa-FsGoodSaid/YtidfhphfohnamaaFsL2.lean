/- The walk of FsGood. -/
import Derived.Test.YtidfhphfohnamaaFsL1
import Derived.Test.YtidfhphfohnamaaFsP5
import Derived.Laws.Bits64
namespace Go.Proofs.Ytidfhphfohnamaa.Fs
open Go.RowKit
set_option linter.unusedVariables false

theorem ops3_new (n tx : S) (W : World) : Ops (W.alloc (.cells #[.int .i64 1, .string (str n), .string ⟨#[]⟩, .string (str tx), .int .i64 2, .string (str n), .string ⟨#[]⟩, .string ⟨#[]⟩, .int .i64 5, .string ⟨#[]⟩, .string ⟨#[]⟩, .string ⟨#[]⟩] 27)) (W.alloc (.cells #[.int .i64 1, .string (str n), .string ⟨#[]⟩, .string (str tx), .int .i64 2, .string (str n), .string ⟨#[]⟩, .string ⟨#[]⟩, .int .i64 5, .string ⟨#[]⟩, .string ⟨#[]⟩, .string ⟨#[]⟩] 27)).heap.size (some ⟨W.heap.size, 0, none⟩) [⟨1, n, [], tx⟩, ⟨2, n, [], []⟩, ⟨5, [], [], []⟩] := fun _ => by
  have hb := bk_new W 27 #[.int .i64 1, .string (str n), .string ⟨#[]⟩, .string (str tx), .int .i64 2, .string (str n), .string ⟨#[]⟩, .string ⟨#[]⟩, .int .i64 5, .string ⟨#[]⟩, .string ⟨#[]⟩, .string ⟨#[]⟩]
  refine ⟨W.heap.size, 0, rfl, hb.lt, fun i hi => ?_⟩
  have h : i = 0 ∨ i = 1 ∨ i = 2 := by simp at hi; omega
  rcases h with rfl | rfl | rfl <;> exact ⟨hb.at _, hb.at _, hb.at _, hb.at _⟩
set_option maxHeartbeats 8000000 in
set_option maxRecDepth 100000 in
theorem fsGood_walk (w : World) (p : At) (f : T) (hf : Fss w w.heap.size p f) (nm : ByteArray) (hnm : nm.size ≤ maxLen) (tm : ByteArray) (htm : tm.size ≤ maxLen) (mk : Nat) (hmk : mk < 18446744073709551616) :
    Calls Try.prog 6 #[fsV p f, .string nm, .string tm, .int .u64 (mk : Nat)] w (BoolPost true w) := by
  obtain ⟨n, rfl⟩ : ∃ n, nm = str n := ⟨nm.data.toList, by simp [str]⟩
  obtain ⟨tx, rfl⟩ : ∃ n, tm = str n := ⟨tm.data.toList, by simp [str]⟩
  rw [str_size] at hnm htm
  have hal : Below w.heap.size w (w.alloc (.cells #[.slice p.an f.nodes.length p.cn, .slice p.ad f.dir.length p.cd, .slice p.ay f.syn.length p.cy] 25)) := (Below.refl _ _).alloc (Nat.le_refl _) _
  have HT := Lib.hid (bk_new w 25 #[.slice p.an f.nodes.length p.cn, .slice p.ad f.dir.length p.cd, .slice p.ay f.syn.length p.cy])
  have HF := Lib.hid (hf.next hal)
  generalize hW0 : w.alloc (.cells #[.slice p.an f.nodes.length p.cn, .slice p.ad f.dir.length p.cd, .slice p.ay f.syn.length p.cy] 25) = W0 at *
  have HW := Lib.hid hW0
  have hs0 := hal.size
  have HOP1 := Lib.hid (fun W => show Calls Try.prog 20 #[.int .i64 1, .string (str n), .string ⟨#[]⟩, .string (str tx)] W (fun e w' => e = .returned (.agg #[.int .i64 1, .string (str n), .string ⟨#[]⟩, .string (str tx)]) ∧ Below W.heap.size W w') from op_any ⟨1, n, [], tx⟩ W)
  have HOP2 := Lib.hid (fun W => show Calls Try.prog 20 #[.int .i64 2, .string (str n), .string ⟨#[]⟩, .string ⟨#[]⟩] W (fun e w' => e = .returned (.agg #[.int .i64 2, .string (str n), .string ⟨#[]⟩, .string ⟨#[]⟩]) ∧ Below W.heap.size W w') from op_any ⟨2, n, [], []⟩ W)
  have HOP3 := Lib.hid (fun W => show Calls Try.prog 20 #[.int .i64 5, .string ⟨#[]⟩, .string ⟨#[]⟩, .string ⟨#[]⟩] W (fun e w' => e = .returned (.agg #[.int .i64 5, .string ⟨#[]⟩, .string ⟨#[]⟩, .string ⟨#[]⟩]) ∧ Below W.heap.size W w') from op_any ⟨5, [], [], []⟩ W)
  have hoks : ∀ x ∈ ([⟨1, n, [], tx⟩, ⟨2, n, [], []⟩, ⟨5, [], [], []⟩] : List Op), opOk x := by
    intro x hx
    simp only [List.mem_cons, List.not_mem_nil, or_false] at hx
    rcases hx with rfl | rfl | rfl
    · exact ⟨by simp, hnm, by simp, htm⟩
    · exact ⟨by simp, hnm, by simp, by simp⟩
    · exact ⟨by simp, by simp, by simp, by simp⟩
  have HP := Lib.hid (fun W (A : Option Addr) (hb : Below W0.heap.size W0 W) (hu : Ops W W.heap.size A [⟨1, n, [], tx⟩, ⟨2, n, [], []⟩, ⟨5, [], [], []⟩]) => play_any p f A 3 [⟨1, n, [], tx⟩, ⟨2, n, [], []⟩, ⟨5, [], [], []⟩] W (HF.out.next hb) (by simp [maxLen]) hu hoks)
  have HON := Lib.hid (fun W => ops3_new n tx W)
  have HONE := Lib.hid (fun (W : World) (k : Nat) (hk : k = W.heap.size) => show Ops (W.alloc (.cells #[.int .i64 1, .string (str n), .string ⟨#[]⟩, .string (str tx), .int .i64 2, .string (str n), .string ⟨#[]⟩, .string ⟨#[]⟩, .int .i64 5, .string ⟨#[]⟩, .string ⟨#[]⟩, .string ⟨#[]⟩] 27)) (W.alloc (.cells #[.int .i64 1, .string (str n), .string ⟨#[]⟩, .string (str tx), .int .i64 2, .string (str n), .string ⟨#[]⟩, .string ⟨#[]⟩, .int .i64 5, .string ⟨#[]⟩, .string ⟨#[]⟩, .string ⟨#[]⟩] 27)).heap.size (some ⟨k, 0, none⟩) [⟨1, n, [], tx⟩, ⟨2, n, [], []⟩, ⟨5, [], [], []⟩] by rw [hk]; exact ops3_new n tx W)
  have HFB := Lib.hid (fun W => fsBegun_any W)
  have hlaw := good_law (f := f) (n := n) (tx := tx)
  have hbad := play_bad f [⟨1, n, [], tx⟩, ⟨2, n, [], []⟩, ⟨5, [], [], []⟩]
  generalize play f [⟨1, n, [], tx⟩, ⟨2, n, [], []⟩, ⟨5, [], [], []⟩] = R at *
  obtain ⟨g, er⟩ := R
  obtain ⟨an, cn, ad, cd, ay, cy⟩ := p
  unfold fsV at *
  simp only [List.length_cons, List.length_nil, Nat.zero_add, Nat.reduceAdd] at *
  have d := HT.out.three
  obtain ⟨d0, d1, d2⟩ := d
  have hself : Below W0.heap.size W0 W0 := Below.refl _ _
  have q0 : ∀ W, Below W0.heap.size W0 W → W.cell? ⟨w.heap.size, 0, none⟩ = some (.slice an f.nodes.length cn) := fun W hb => (HT.out.next hb).three.1
  have q1 : ∀ W, Below W0.heap.size W0 W → W.cell? ⟨w.heap.size, 1, none⟩ = some (.slice ad f.dir.length cd) := fun W hb => (HT.out.next hb).three.2.1
  have q2 : ∀ W, Below W0.heap.size W0 W → W.cell? ⟨w.heap.size, 2, none⟩ = some (.slice ay f.syn.length cy) := fun W hb => (HT.out.next hb).three.2.2
  have HLAW := Lib.hid hlaw
  have HBAD := Lib.hid hbad
  clear hlaw hbad hoks hf hW0 d0 d1 d2
  by_cases he : er ≠ 0
  · obtain rfl : g = nul := HBAD.out he
    have hne : ((er : Int) != 0) = true := by rw [bne_iff_ne]; omega
    clear HLAW HBAD he
    go_enter Try.func6, Try.ntmps6
    go_wp2_with fail
    rw [HW.out]
    go_region_held3 (fun W => Below W0.heap.size W0 W)
      (first
        | assumption
        | exact (show Below W0.heap.size W0 _ by assumption).drew
        | exact (show Below W0.heap.size W0 _ by assumption).alloc (show Below W0.heap.size W0 _ by assumption).size _
        | exact ((((show Below W0.heap.size W0 _ by assumption).setCell (p := ⟨_, 0, none⟩) (by first | assumption | exact Nat.le_refl _ | exact Nat.le_succ_of_le sw8) _).setCell (p := ⟨_, 1, none⟩) (by first | assumption | exact Nat.le_refl _ | exact Nat.le_succ_of_le sw8) _).setCell (p := ⟨_, 2, none⟩) (by first | assumption | exact Nat.le_refl _ | exact Nat.le_succ_of_le sw8) _))
      (first
        | (go_at_call 20; (with_reducible refine (HOP1.out _).mono ?_); rintro e w6 ⟨rfl, hb6⟩; have sw6 := Nat.le_trans (show Below W0.heap.size W0 _ by assumption).size hb6.size; have Sw6 := Below.trans (show Below W0.heap.size W0 _ by assumption) (hb6.mono (show Below W0.heap.size W0 _ by assumption).size); obtain ⟨cAw6, fAw6⟩ := bcell hb6; (try simp at cAw6); (try simp at fAw6); have zw6 := hb6.size; (try simp at zw6); (try have yw6 := Nat.lt_of_succ_le zw6))
        | (go_at_call 20; (with_reducible refine (HOP2.out _).mono ?_); rintro e w7 ⟨rfl, hb7⟩; have sw7 := Nat.le_trans (show Below W0.heap.size W0 _ by assumption).size hb7.size; have Sw7 := Below.trans (show Below W0.heap.size W0 _ by assumption) (hb7.mono (show Below W0.heap.size W0 _ by assumption).size); obtain ⟨cAw7, fAw7⟩ := bcell hb7; (try simp at cAw7); (try simp at fAw7); have zw7 := hb7.size; (try simp at zw7); (try have yw7 := Nat.lt_of_succ_le zw7); (try have l7 := Nat.lt_of_lt_of_le yw6 hb7.size))
        | (go_at_call 20; (with_reducible refine (HOP3.out _).mono ?_); rintro e w8 ⟨rfl, hb8⟩; have sw8 := Nat.le_trans (show Below W0.heap.size W0 _ by assumption).size hb8.size; have Sw8 := Below.trans (show Below W0.heap.size W0 _ by assumption) (hb8.mono (show Below W0.heap.size W0 _ by assumption).size); obtain ⟨cAw8, fAw8⟩ := bcell hb8; (try simp at cAw8); (try simp at fAw8); have zw8 := hb8.size; (try simp at zw8); (try have yw8 := Nat.lt_of_succ_le zw8); (try have l8 := Nat.lt_of_lt_of_le l7 hb8.size); (try have k8 := Nat.lt_of_lt_of_le yw7 hb8.size); (try have nl8 := Nat.lt_succ_of_lt l8); (try have nk8 := Nat.lt_succ_of_lt k8); (try have ny8 := Nat.lt_succ_of_lt yw8))
        | (go_at_call 18; refine Calls.mono (HP.out _ _ (by assumption) ?_) ?_; (first | exact HONE.out _ _ (by simp) | exact HON.out _ | exact (HON.out _).next opAt_firm ((Below.refl _ _).alloc (Nat.le_refl _) _)); rintro e w9 ⟨nv, dv, sv, rfl, own, hb9⟩; obtain ⟨p9, e1, e2, e3, -⟩ := own.fss; subst e1; subst e2; subst e3; have sw9 := Nat.le_trans (show Below W0.heap.size W0 _ by assumption).size hb9.size; have Sw9 := Below.trans (show Below W0.heap.size W0 _ by assumption) (hb9.mono (show Below W0.heap.size W0 _ by assumption).size); obtain ⟨cB, fB⟩ := bcell hb9; (try simp at cB); (try simp at fB)))
    all_goals (
      first
        | (have HPU := Lib.hid (put_last own (show Below W0.heap.size W0 w9 by assumption)); obtain ⟨WF, hWF⟩ : ∃ W, W = (w9.alloc (.cells #[.slice p9.an nul.nodes.length p9.cn, .slice p9.ad nul.dir.length p9.cd, .slice p9.ay nul.syn.length p9.cy] 25)) := ⟨_, rfl⟩; rw [← hWF]; obtain ⟨O, hO⟩ : ∃ O, O = w9.heap.size := ⟨_, rfl⟩; have HPU := Lib.hid (show Put W0 WF O nul p9 by rw [hO, hWF]; exact HPU.out); rw [← hO])
        | (have HPU := Lib.hid (put_mid own (show Below W0.heap.size W0 w9 by assumption) (Nat.le_succ_of_le (show Below W0.heap.size W0 w8 by assumption).size) (show Bk w9 (w8.heap.size + 1) 25 #[.slice none 0 0, .slice none 0 0, .slice none 0 0] from by have hq := (bk_new (w8.alloc (.cells #[.int .i64 1, .string (str n), .string ⟨#[]⟩, .string (str tx), .int .i64 2, .string (str n), .string ⟨#[]⟩, .string ⟨#[]⟩, .int .i64 5, .string ⟨#[]⟩, .string ⟨#[]⟩, .string ⟨#[]⟩] 27)) 25 #[.slice none 0 0, .slice none 0 0, .slice none 0 0]).next hb9; simpa using hq)); obtain ⟨WF, hWF⟩ : ∃ W, W = (((w9.setCell ⟨w8.heap.size + 1, 0, none⟩ (.slice p9.an nul.nodes.length p9.cn)).setCell ⟨w8.heap.size + 1, 1, none⟩ (.slice p9.ad nul.dir.length p9.cd)).setCell ⟨w8.heap.size + 1, 2, none⟩ (.slice p9.ay nul.syn.length p9.cy)) := ⟨_, rfl⟩; rw [← hWF]; obtain ⟨O, hO⟩ : ∃ O, O = w8.heap.size + 1 := ⟨_, rfl⟩; have HPU := Lib.hid (show Put W0 WF O nul p9 by rw [hO, hWF]; exact HPU.out); rw [← hO])
        | (have HPU := Lib.hid (put_mid own (show Below W0.heap.size W0 w9 by assumption) (show Below W0.heap.size W0 w8 by assumption).size (((bk_new w8 25 #[.slice none 0 0, .slice none 0 0, .slice none 0 0]).next ((Below.refl _ _).alloc (Nat.le_refl _) (.cells #[.int .i64 1, .string (str n), .string ⟨#[]⟩, .string (str tx), .int .i64 2, .string (str n), .string ⟨#[]⟩, .string ⟨#[]⟩, .int .i64 5, .string ⟨#[]⟩, .string ⟨#[]⟩, .string ⟨#[]⟩] 27))).next hb9)); obtain ⟨WF, hWF⟩ : ∃ W, W = (((w9.setCell ⟨w8.heap.size, 0, none⟩ (.slice p9.an nul.nodes.length p9.cn)).setCell ⟨w8.heap.size, 1, none⟩ (.slice p9.ad nul.dir.length p9.cd)).setCell ⟨w8.heap.size, 2, none⟩ (.slice p9.ay nul.syn.length p9.cy)) := ⟨_, rfl⟩; rw [← hWF]; obtain ⟨O, hO⟩ : ∃ O, O = w8.heap.size := ⟨_, rfl⟩; have HPU := Lib.hid (show Put W0 WF O nul p9 by rw [hO, hWF]; exact HPU.out); rw [← hO])
        | (have HPU := Lib.hid (put_mid own (show Below W0.heap.size W0 w9 by assumption) (show Below W0.heap.size W0 w7 by assumption).size ((((bk_new w7 25 #[.slice none 0 0, .slice none 0 0, .slice none 0 0]).next hb8).next ((Below.refl _ _).alloc (Nat.le_refl _) (.cells #[.int .i64 1, .string (str n), .string ⟨#[]⟩, .string (str tx), .int .i64 2, .string (str n), .string ⟨#[]⟩, .string ⟨#[]⟩, .int .i64 5, .string ⟨#[]⟩, .string ⟨#[]⟩, .string ⟨#[]⟩] 27))).next hb9)); obtain ⟨WF, hWF⟩ : ∃ W, W = (((w9.setCell ⟨w7.heap.size, 0, none⟩ (.slice p9.an nul.nodes.length p9.cn)).setCell ⟨w7.heap.size, 1, none⟩ (.slice p9.ad nul.dir.length p9.cd)).setCell ⟨w7.heap.size, 2, none⟩ (.slice p9.ay nul.syn.length p9.cy)) := ⟨_, rfl⟩; rw [← hWF]; obtain ⟨O, hO⟩ : ∃ O, O = w7.heap.size := ⟨_, rfl⟩; have HPU := Lib.hid (show Put W0 WF O nul p9 by rw [hO, hWF]; exact HPU.out); rw [← hO])
        | (have HPU := Lib.hid (put_mid own (show Below W0.heap.size W0 w9 by assumption) (show Below W0.heap.size W0 w6 by assumption).size (((((bk_new w6 25 #[.slice none 0 0, .slice none 0 0, .slice none 0 0]).next hb7).next hb8).next ((Below.refl _ _).alloc (Nat.le_refl _) (.cells #[.int .i64 1, .string (str n), .string ⟨#[]⟩, .string (str tx), .int .i64 2, .string (str n), .string ⟨#[]⟩, .string ⟨#[]⟩, .int .i64 5, .string ⟨#[]⟩, .string ⟨#[]⟩, .string ⟨#[]⟩] 27))).next hb9)); obtain ⟨WF, hWF⟩ : ∃ W, W = (((w9.setCell ⟨w6.heap.size, 0, none⟩ (.slice p9.an nul.nodes.length p9.cn)).setCell ⟨w6.heap.size, 1, none⟩ (.slice p9.ad nul.dir.length p9.cd)).setCell ⟨w6.heap.size, 2, none⟩ (.slice p9.ay nul.syn.length p9.cy)) := ⟨_, rfl⟩; rw [← hWF]; obtain ⟨O, hO⟩ : ∃ O, O = w6.heap.size := ⟨_, rfl⟩; have HPU := Lib.hid (show Put W0 WF O nul p9 by rw [hO, hWF]; exact HPU.out); rw [← hO])
        | (have HPU := Lib.hid (put_mid own (show Below W0.heap.size W0 w9 by assumption) (Nat.le_refl _) ((((((bk_drew (bk_new W0 25 #[.slice none 0 0, .slice none 0 0, .slice none 0 0])).next hb6).next hb7).next hb8).next ((Below.refl _ _).alloc (Nat.le_refl _) (.cells #[.int .i64 1, .string (str n), .string ⟨#[]⟩, .string (str tx), .int .i64 2, .string (str n), .string ⟨#[]⟩, .string ⟨#[]⟩, .int .i64 5, .string ⟨#[]⟩, .string ⟨#[]⟩, .string ⟨#[]⟩] 27))).next hb9)); obtain ⟨WF, hWF⟩ : ∃ W, W = (((w9.setCell ⟨W0.heap.size, 0, none⟩ (.slice p9.an nul.nodes.length p9.cn)).setCell ⟨W0.heap.size, 1, none⟩ (.slice p9.ad nul.dir.length p9.cd)).setCell ⟨W0.heap.size, 2, none⟩ (.slice p9.ay nul.syn.length p9.cy)) := ⟨_, rfl⟩; rw [← hWF]; obtain ⟨O, hO⟩ : ∃ O, O = W0.heap.size := ⟨_, rfl⟩; have HPU := Lib.hid (show Put W0 WF O nul p9 by rw [hO, hWF]; exact HPU.out); rw [← hO])
      clear hWF hO)
    all_goals (
      obtain ⟨pan, pcn, pad, pcd, pay, pcy⟩ := p9
      simp only at *
      clear own hb6 hb7 hb8 hb9 sw6 sw7 sw8 sw9 Sw6 Sw7 Sw8 Sw9
      go_wp2_with fail
      refine (HFB.out _).mono ?_
      rintro e w10 ⟨rfl, hb10⟩
      obtain ⟨o0, o1, o2⟩ := (HPU.out.bk.next hb10).three
      simp only at o0 o1 o2
      go_wp2_with fail
      have HSM := Lib.hid (rSame_any ⟨pan, pcn, pad, pcd, pay, pcy⟩ nulAt nul nul w10 (HPU.out.fs.next hb10) (Fss.nul _ _))
      unfold fsV at HSM
      simp only at HSM
      refine (HSM.out).mono ?_
      rintro e w11 ⟨rfl, hb11⟩
      have hend := hal.trans ((below_then HPU.out.bel (below_then hb10 hb11)).mono hs0)
      clear hb10 hb11 o0 o1 o2
      go_wp2_with fail
      go_ret
      exact ⟨by first | rfl | simp, hend⟩)
  · obtain rfl : er = 0 := by omega
    have hl := HLAW.out rfl mk (18446744073709551615 ^^^ mk)
    generalize hB : crash g mk = B at *
    obtain ⟨b, eb⟩ := B
    obtain ⟨l1, l2, l3, l4⟩ := hl
    try simp only at l1 l2 l3 l4
    subst l1
    have HB := Lib.hid hB
    have HL2 := Lib.hid l2
    have HL3 := Lib.hid l3
    have HL4 := Lib.hid l4
    clear hB l2 l3 l4 HLAW HBAD he
    go_enter Try.func6, Try.ntmps6
    go_wp2_with fail
    rw [HW.out]
    go_region_held3 (fun W => Below W0.heap.size W0 W)
      (first
        | assumption
        | exact (show Below W0.heap.size W0 _ by assumption).drew
        | exact (show Below W0.heap.size W0 _ by assumption).alloc (show Below W0.heap.size W0 _ by assumption).size _
        | exact ((((show Below W0.heap.size W0 _ by assumption).setCell (p := ⟨_, 0, none⟩) (by first | assumption | exact Nat.le_refl _ | exact Nat.le_succ_of_le sw8) _).setCell (p := ⟨_, 1, none⟩) (by first | assumption | exact Nat.le_refl _ | exact Nat.le_succ_of_le sw8) _).setCell (p := ⟨_, 2, none⟩) (by first | assumption | exact Nat.le_refl _ | exact Nat.le_succ_of_le sw8) _))
      (first
        | (go_at_call 20; (with_reducible refine (HOP1.out _).mono ?_); rintro e w6 ⟨rfl, hb6⟩; have sw6 := Nat.le_trans (show Below W0.heap.size W0 _ by assumption).size hb6.size; have Sw6 := Below.trans (show Below W0.heap.size W0 _ by assumption) (hb6.mono (show Below W0.heap.size W0 _ by assumption).size); obtain ⟨cAw6, fAw6⟩ := bcell hb6; (try simp at cAw6); (try simp at fAw6); have zw6 := hb6.size; (try simp at zw6); (try have yw6 := Nat.lt_of_succ_le zw6))
        | (go_at_call 20; (with_reducible refine (HOP2.out _).mono ?_); rintro e w7 ⟨rfl, hb7⟩; have sw7 := Nat.le_trans (show Below W0.heap.size W0 _ by assumption).size hb7.size; have Sw7 := Below.trans (show Below W0.heap.size W0 _ by assumption) (hb7.mono (show Below W0.heap.size W0 _ by assumption).size); obtain ⟨cAw7, fAw7⟩ := bcell hb7; (try simp at cAw7); (try simp at fAw7); have zw7 := hb7.size; (try simp at zw7); (try have yw7 := Nat.lt_of_succ_le zw7); (try have l7 := Nat.lt_of_lt_of_le yw6 hb7.size))
        | (go_at_call 20; (with_reducible refine (HOP3.out _).mono ?_); rintro e w8 ⟨rfl, hb8⟩; have sw8 := Nat.le_trans (show Below W0.heap.size W0 _ by assumption).size hb8.size; have Sw8 := Below.trans (show Below W0.heap.size W0 _ by assumption) (hb8.mono (show Below W0.heap.size W0 _ by assumption).size); obtain ⟨cAw8, fAw8⟩ := bcell hb8; (try simp at cAw8); (try simp at fAw8); have zw8 := hb8.size; (try simp at zw8); (try have yw8 := Nat.lt_of_succ_le zw8); (try have l8 := Nat.lt_of_lt_of_le l7 hb8.size); (try have k8 := Nat.lt_of_lt_of_le yw7 hb8.size); (try have nl8 := Nat.lt_succ_of_lt l8); (try have nk8 := Nat.lt_succ_of_lt k8); (try have ny8 := Nat.lt_succ_of_lt yw8))
        | (go_at_call 18; refine Calls.mono (HP.out _ _ (by assumption) ?_) ?_; (first | exact HONE.out _ _ (by simp) | exact HON.out _ | exact (HON.out _).next opAt_firm ((Below.refl _ _).alloc (Nat.le_refl _) _)); rintro e w9 ⟨nv, dv, sv, rfl, own, hb9⟩; obtain ⟨p9, e1, e2, e3, -⟩ := own.fss; subst e1; subst e2; subst e3; have sw9 := Nat.le_trans (show Below W0.heap.size W0 _ by assumption).size hb9.size; have Sw9 := Below.trans (show Below W0.heap.size W0 _ by assumption) (hb9.mono (show Below W0.heap.size W0 _ by assumption).size); obtain ⟨cB, fB⟩ := bcell hb9; (try simp at cB); (try simp at fB)))
    all_goals (
      first
        | (have HPU := Lib.hid (put_last own (show Below W0.heap.size W0 w9 by assumption)); obtain ⟨WF, hWF⟩ : ∃ W, W = (w9.alloc (.cells #[.slice p9.an g.nodes.length p9.cn, .slice p9.ad g.dir.length p9.cd, .slice p9.ay g.syn.length p9.cy] 25)) := ⟨_, rfl⟩; rw [← hWF]; obtain ⟨O, hO⟩ : ∃ O, O = w9.heap.size := ⟨_, rfl⟩; have HPU := Lib.hid (show Put W0 WF O g p9 by rw [hO, hWF]; exact HPU.out); rw [← hO])
        | (have HPU := Lib.hid (put_mid own (show Below W0.heap.size W0 w9 by assumption) (Nat.le_succ_of_le (show Below W0.heap.size W0 w8 by assumption).size) (show Bk w9 (w8.heap.size + 1) 25 #[.slice none 0 0, .slice none 0 0, .slice none 0 0] from by have hq := (bk_new (w8.alloc (.cells #[.int .i64 1, .string (str n), .string ⟨#[]⟩, .string (str tx), .int .i64 2, .string (str n), .string ⟨#[]⟩, .string ⟨#[]⟩, .int .i64 5, .string ⟨#[]⟩, .string ⟨#[]⟩, .string ⟨#[]⟩] 27)) 25 #[.slice none 0 0, .slice none 0 0, .slice none 0 0]).next hb9; simpa using hq)); obtain ⟨WF, hWF⟩ : ∃ W, W = (((w9.setCell ⟨w8.heap.size + 1, 0, none⟩ (.slice p9.an g.nodes.length p9.cn)).setCell ⟨w8.heap.size + 1, 1, none⟩ (.slice p9.ad g.dir.length p9.cd)).setCell ⟨w8.heap.size + 1, 2, none⟩ (.slice p9.ay g.syn.length p9.cy)) := ⟨_, rfl⟩; rw [← hWF]; obtain ⟨O, hO⟩ : ∃ O, O = w8.heap.size + 1 := ⟨_, rfl⟩; have HPU := Lib.hid (show Put W0 WF O g p9 by rw [hO, hWF]; exact HPU.out); rw [← hO])
        | (have HPU := Lib.hid (put_mid own (show Below W0.heap.size W0 w9 by assumption) (show Below W0.heap.size W0 w8 by assumption).size (((bk_new w8 25 #[.slice none 0 0, .slice none 0 0, .slice none 0 0]).next ((Below.refl _ _).alloc (Nat.le_refl _) (.cells #[.int .i64 1, .string (str n), .string ⟨#[]⟩, .string (str tx), .int .i64 2, .string (str n), .string ⟨#[]⟩, .string ⟨#[]⟩, .int .i64 5, .string ⟨#[]⟩, .string ⟨#[]⟩, .string ⟨#[]⟩] 27))).next hb9)); obtain ⟨WF, hWF⟩ : ∃ W, W = (((w9.setCell ⟨w8.heap.size, 0, none⟩ (.slice p9.an g.nodes.length p9.cn)).setCell ⟨w8.heap.size, 1, none⟩ (.slice p9.ad g.dir.length p9.cd)).setCell ⟨w8.heap.size, 2, none⟩ (.slice p9.ay g.syn.length p9.cy)) := ⟨_, rfl⟩; rw [← hWF]; obtain ⟨O, hO⟩ : ∃ O, O = w8.heap.size := ⟨_, rfl⟩; have HPU := Lib.hid (show Put W0 WF O g p9 by rw [hO, hWF]; exact HPU.out); rw [← hO])
        | (have HPU := Lib.hid (put_mid own (show Below W0.heap.size W0 w9 by assumption) (show Below W0.heap.size W0 w7 by assumption).size ((((bk_new w7 25 #[.slice none 0 0, .slice none 0 0, .slice none 0 0]).next hb8).next ((Below.refl _ _).alloc (Nat.le_refl _) (.cells #[.int .i64 1, .string (str n), .string ⟨#[]⟩, .string (str tx), .int .i64 2, .string (str n), .string ⟨#[]⟩, .string ⟨#[]⟩, .int .i64 5, .string ⟨#[]⟩, .string ⟨#[]⟩, .string ⟨#[]⟩] 27))).next hb9)); obtain ⟨WF, hWF⟩ : ∃ W, W = (((w9.setCell ⟨w7.heap.size, 0, none⟩ (.slice p9.an g.nodes.length p9.cn)).setCell ⟨w7.heap.size, 1, none⟩ (.slice p9.ad g.dir.length p9.cd)).setCell ⟨w7.heap.size, 2, none⟩ (.slice p9.ay g.syn.length p9.cy)) := ⟨_, rfl⟩; rw [← hWF]; obtain ⟨O, hO⟩ : ∃ O, O = w7.heap.size := ⟨_, rfl⟩; have HPU := Lib.hid (show Put W0 WF O g p9 by rw [hO, hWF]; exact HPU.out); rw [← hO])
        | (have HPU := Lib.hid (put_mid own (show Below W0.heap.size W0 w9 by assumption) (show Below W0.heap.size W0 w6 by assumption).size (((((bk_new w6 25 #[.slice none 0 0, .slice none 0 0, .slice none 0 0]).next hb7).next hb8).next ((Below.refl _ _).alloc (Nat.le_refl _) (.cells #[.int .i64 1, .string (str n), .string ⟨#[]⟩, .string (str tx), .int .i64 2, .string (str n), .string ⟨#[]⟩, .string ⟨#[]⟩, .int .i64 5, .string ⟨#[]⟩, .string ⟨#[]⟩, .string ⟨#[]⟩] 27))).next hb9)); obtain ⟨WF, hWF⟩ : ∃ W, W = (((w9.setCell ⟨w6.heap.size, 0, none⟩ (.slice p9.an g.nodes.length p9.cn)).setCell ⟨w6.heap.size, 1, none⟩ (.slice p9.ad g.dir.length p9.cd)).setCell ⟨w6.heap.size, 2, none⟩ (.slice p9.ay g.syn.length p9.cy)) := ⟨_, rfl⟩; rw [← hWF]; obtain ⟨O, hO⟩ : ∃ O, O = w6.heap.size := ⟨_, rfl⟩; have HPU := Lib.hid (show Put W0 WF O g p9 by rw [hO, hWF]; exact HPU.out); rw [← hO])
        | (have HPU := Lib.hid (put_mid own (show Below W0.heap.size W0 w9 by assumption) (Nat.le_refl _) ((((((bk_drew (bk_new W0 25 #[.slice none 0 0, .slice none 0 0, .slice none 0 0])).next hb6).next hb7).next hb8).next ((Below.refl _ _).alloc (Nat.le_refl _) (.cells #[.int .i64 1, .string (str n), .string ⟨#[]⟩, .string (str tx), .int .i64 2, .string (str n), .string ⟨#[]⟩, .string ⟨#[]⟩, .int .i64 5, .string ⟨#[]⟩, .string ⟨#[]⟩, .string ⟨#[]⟩] 27))).next hb9)); obtain ⟨WF, hWF⟩ : ∃ W, W = (((w9.setCell ⟨W0.heap.size, 0, none⟩ (.slice p9.an g.nodes.length p9.cn)).setCell ⟨W0.heap.size, 1, none⟩ (.slice p9.ad g.dir.length p9.cd)).setCell ⟨W0.heap.size, 2, none⟩ (.slice p9.ay g.syn.length p9.cy)) := ⟨_, rfl⟩; rw [← hWF]; obtain ⟨O, hO⟩ : ∃ O, O = W0.heap.size := ⟨_, rfl⟩; have HPU := Lib.hid (show Put W0 WF O g p9 by rw [hO, hWF]; exact HPU.out); rw [← hO])
      clear hWF hO)
    all_goals (
      obtain ⟨pan, pcn, pad, pcd, pay, pcy⟩ := p9
      simp only at *
      clear own hb6 hb7 hb8 hb9 sw6 sw7 sw8 sw9 Sw6 Sw7 Sw8 Sw9
      go_wp2_with fail
      refine (HFB.out _).mono ?_
      rintro e w10 ⟨rfl, hb10⟩
      obtain ⟨o0, o1, o2⟩ := (HPU.out.bk.next hb10).three
      simp only at o0 o1 o2
      have HC1 := Lib.hid (crash_any ⟨pan, pcn, pad, pcd, pay, pcy⟩ g mk w10 (HPU.out.fs.next hb10) hmk)
      rw [HB.out] at HC1
      unfold fsV at HC1
      simp only at HC1
      go_wp2_with fail
      clear o0 o1 o2
      refine (HC1.out).mono ?_
      rintro e w11 ⟨nv, dv, sv, rfl, own2, hb11⟩
      obtain ⟨p8, e1, e2, e3, hfs8⟩ := own2.fss
      subst e1; subst e2; subst e3
      have HB11 := Lib.hid (hal.trans ((below_then HPU.out.bel (below_then hb10 hb11)).mono hs0))
      clear own2 HC1 hb10 hb11 HPU
      obtain ⟨ban, bcn, bad, bcd, bay, bcy⟩ := p8
      simp only at *
      go_wp2_with fail
      have hal12 := (Below.refl w11.heap.size w11).alloc (Nat.le_refl _) (.cells #[.slice ban b.nodes.length bcn, .slice bad b.dir.length bcd, .slice bay b.syn.length bcy] 25)
      have HK12 := Lib.hid (bk_new w11 25 #[.slice ban b.nodes.length bcn, .slice bad b.dir.length bcd, .slice bay b.syn.length bcy])
      have HG12 := Lib.hid (hfs8.next hal12)
      have HB12 := Lib.hid (HB11.out.trans (hal12.mono HB11.out.size))
      generalize w11.alloc (.cells #[.slice ban b.nodes.length bcn, .slice bad b.dir.length bcd, .slice bay b.syn.length bcy] 25) = W12 at *
      have HR4 := read_any ⟨ban, bcn, bad, bcd, bay, bcy⟩ b n W12 HG12.out
      rw [HL2.out] at HR4
      unfold fsV TextEPost at HR4
      simp only at HR4
      refine HR4.mono ?_
      clear HR4
      rintro e w13 ⟨rfl, hb13⟩
      obtain ⟨o0, o1, o2⟩ := (HK12.out.next hb13).three
      go_wp2_with fail
      clear o0 o1 o2
      have HC2 := crash_any ⟨ban, bcn, bad, bcd, bay, bcy⟩ b (18446744073709551615 ^^^ mk) w13 (HG12.out.next hb13) (Nat.xor_lt_two_pow (n := 64) (by decide) (by omega))
      rw [HL3.out] at HC2
      unfold fsV at HC2
      simp only at HC2
      rw [show bits .xor .u64 IntKind.u64.max (mk : Int) = ((18446744073709551615 ^^^ mk : Nat) : Int) from bits_xor_u64_nat 18446744073709551615 mk (by decide) hmk]
      refine HC2.mono ?_
      rintro e w14 ⟨nv, dv, sv, rfl, own3, hb14⟩
      obtain ⟨p7, e1, e2, e3, hfs7⟩ := own3.fss
      subst e1; subst e2; subst e3
      have hb14b := below_then hb13 hb14
      have HB14 := Lib.hid (HB12.out.trans (hb14b.mono HB12.out.size))
      have HK14 := Lib.hid (HK12.out.next hb14b)
      have HG14 := Lib.hid (HG12.out.next hb14b)
      clear own3 hb13 hb14 hb14b HB12 HK12 HG12 HC2
      obtain ⟨can, ccn, cad, ccd, cay, ccy⟩ := p7
      simp only at *
      obtain ⟨o0, o1, o2⟩ := HK14.out.three
      have hlt14 := HK14.out.lt
      go_wp2_with fail
      have hal15 := (Below.refl w14.heap.size w14).alloc (Nat.le_refl _) (.cells #[.slice can b.nodes.length ccn, .slice cad b.dir.length ccd, .slice cay b.syn.length ccy] 25)
      have HG15 := Lib.hid (HG14.out.next hal15)
      have HC15 := Lib.hid (hfs7.next hal15)
      have HK15 := Lib.hid (HK14.out.next hal15)
      have HB15 := Lib.hid (HB14.out.trans (hal15.mono HB14.out.size))
      have HSM := Lib.hid (rSame_any ⟨can, ccn, cad, ccd, cay, ccy⟩ ⟨ban, bcn, bad, bcd, bay, bcy⟩ b b _ HC15.out HG15.out)
      unfold fsV at HSM
      simp only at HSM
      generalize w14.alloc (.cells #[.slice can b.nodes.length ccn, .slice cad b.dir.length ccd, .slice cay b.syn.length ccy] 25) = W15 at *
      clear o0 o1 o2 hlt14
      refine (HSM.out).mono ?_
      rintro e w16 ⟨rfl, hb16⟩
      obtain ⟨o0, o1, o2⟩ := (HK15.out.next hb16).three
      have HCK := Lib.hid (check_any ⟨ban, bcn, bad, bcd, bay, bcy⟩ b w16 (HG15.out.next hb16))
      rw [HL4.out] at HCK
      unfold fsV at HCK
      simp only at HCK
      go_wp2_with fail
      clear o0 o1 o2
      refine (HCK.out).mono ?_
      rintro e w17 ⟨rfl, hb17⟩
      have hend := HB15.out.trans ((below_then hb16 hb17).mono HB15.out.size)
      clear hb16 hb17
      go_wp2_with fail
      go_ret
      exact ⟨by first | rfl | simp, hend⟩)
end Go.Proofs.Ytidfhphfohnamaa.Fs
