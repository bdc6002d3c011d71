/- (*changed).write. -/
import Derived.Test.YtmjcdjekakaigaaFsEn
namespace Go.Proofs.Ytmjcdjekakaigaa.Fs
open Go.RowKit
set_option linter.unusedVariables false

def wroteR (f : T) (n tx : S) : T × Nat :=
  if has f.dir n = true then (⟨f.nodes.set (nodeOf f.dir n).toNat ⟨tx, (f.nodes.getD (nodeOf f.dir n).toNat nulN).syn⟩, f.dir, f.syn⟩, 0)
  else if f.nodes.length = 24 then (nul, 2)
  else (⟨f.nodes ++ [⟨tx, []⟩], withE f.dir ⟨n, (f.nodes.length : Nat)⟩, f.syn⟩, 0)
def ErrMet (B G : Nat) (r : T × Nat) (w : World) (e : Ending) (w' : World) : Prop :=
  e = .returned (.int .i64 (r.2 : Nat)) ∧ Below B w w' ∧ (r.2 = 0 → ∃ nv dv sv, Chg w' B G r.1 nv dv sv)
set_option maxHeartbeats 2000000 in
set_option maxRecDepth 100000 in
theorem write_any (B G : Nat) (f : T) (nv dv sv : Value) (n tx : S) (w : World) (h : Chg w B G f nv dv sv) (hup : Up f.dir) (hl : f.nodes.length ≤ 1048576) (hd : f.dir.length ≤ 1048570) (hr : ∀ e ∈ f.dir, 0 ≤ e.node ∧ e.node < (f.nodes.length : Int)) (hn : n.length ≤ maxLen) (ht : tx.length ≤ maxLen) :
    Calls Try.prog 50 #[.pointer (some ⟨G, 0, none⟩), .string (str n), .string (str tx)] w (ErrMet B G (wroteR f n tx) w) := by
  obtain ⟨p, e1, e2, e3, hf⟩ := h.toOwn.fss
  subst e1; subst e2; subst e3
  obtain ⟨an, cn, ad, cd, ay, cy⟩ := p
  simp only at *
  have HP := Lib.hid (place_any n ad cd f.dir w (by omega) hf.dir hup)
  obtain ⟨c0, c1, c2⟩ := h.bk.three
  have HH := Lib.hid h
  unfold wroteR
  cases hh : has f.dir n with
  | true =>
    rw [if_pos rfl]
    obtain ⟨g1, g2⟩ := (has_iff hup n).1 hh
    have g3 := nodeOf_at hup hh
    have g4 := hr _ (getD_mem f.dir nulE _ g1)
    rw [← g3] at g4
    obtain ⟨i, hi⟩ : ∃ i : Nat, nodeOf f.dir n = (i : Int) := ⟨(nodeOf f.dir n).toNat, by omega⟩
    have hil : i < f.nodes.length := by omega
    rw [hi] at g3
    rw [hh] at HP
    rw [hi, Int.toNat_natCast]
    have HPOS := Lib.hid g1
    generalize pos f.dir n = q at *
    have hilI : (i : Int) < (f.nodes.length : Int) := by omega
    have hqI : (q : Int) < (f.dir.length : Int) := by omega
    clear h hf hup hr g4 hi g2 hh
    go_enter Try.func50, Try.ntmps50
    go_wp2_with fail
    refine (HP.out).mono ?_
    rintro e w1 ⟨rfl, hb1⟩
    have h1 := HH.out.move hb1
    obtain ⟨g, n9, c9, eq9, hn9, hBg, k0, k1, hfz, hlc, hcm⟩ := h1.dro.at HPOS.out
    injection eq9 with q1 q2 q3
    subst q1; subst q2; subst q3
    obtain ⟨ng, n8, c8, eq8, hn8, hBn, j0, j1, hfn, hlc8, hcm8⟩ := h1.nro.at hil
    injection eq8 with q1 q2 q3
    subst q1; subst q2; subst q3
    rw [← g3] at k1
    obtain ⟨d0, d1, d2⟩ := h1.bk.three
    have h1d := h1.move (Below.refl _ _).drew
    have hok := h1.nok _ (getD_mem f.nodes nulN i hil)
    have hP := h1d.putN (i := i) (j := 0) (u := .string (str tx)) (y := ⟨tx, (f.nodes.getD i nulN).syn⟩) hil (by omega) rfl ⟨ht, hok.2⟩
    rw [Nat.add_zero] at hP
    have HPD := Lib.hid hP
    have hbB : Below B w (w1.drew.setCell ⟨ng, i * 2, none⟩ (.string (str tx))) := ((hb1.mono HH.out.base).drew).setCell (p := ⟨ng, i * 2, none⟩) hBn _
    have z1 := hfn (i * 2)
    unfold maxLen at hcm hcm8
    clear h1 hP h1d hn9 hn8 hfz hfn c0 c1 c2 g3 hok
    generalize f.nodes.set i _ = LL at *
    generalize (f.nodes.getD i nulN).live = lv at *
    generalize (f.nodes.getD i nulN).syn = sy at *
    generalize (f.dir.getD q nulE).name = nm at *
    generalize str tx = X at *
    go_wp2_with fail
    go_region
    all_goals (go_wp2_with fail; go_ret; exact ⟨rfl, hbB, fun _ => ⟨_, _, _, HPD.out⟩⟩)
  | false =>
    rw [if_neg (by simp)]
    rw [hh] at HP
    have HUP := Lib.hid hup
    generalize pos f.dir n = q at *
    by_cases h24 : f.nodes.length = 24
    · rw [if_pos h24]
      have g1 : ((f.nodes.length : Int) == 24) = true := by rw [beq_iff_eq]; omega
      clear h hf hup hr hh h24
      go_enter Try.func50, Try.ntmps50
      go_wp2_with fail
      refine (HP.out).mono ?_
      rintro e w1 ⟨rfl, hb1⟩
      obtain ⟨d0, d1, d2⟩ := (HH.out.move hb1).bk.three
      clear c0 c1 c2
      go_wp2_with fail
      go_ret
      exact ⟨rfl, hb1.mono HH.out.base, fun h => absurd h (by simp)⟩
    · rw [if_neg h24]
      have g1 : ((f.nodes.length : Int) == 24) = false := by rw [beq_eq_false_iff_ne]; omega
      clear h hf hup hr hh h24
      go_enter Try.func50, Try.ntmps50
      go_wp2_with fail
      refine (HP.out).mono ?_
      rintro e w1 ⟨rfl, hb1⟩
      have h1 := HH.out.move hb1
      obtain ⟨d0, d1, d2⟩ := h1.bk.three
      have HE := Lib.hid (enter_any B G f _ _ _ n (f.nodes.length : Nat) w1 h1 HUP.out hd hn (by omega))
      clear c0 c1 c2 h1
      go_wp2_with fail
      refine (HE.out).mono ?_
      rintro e w2 ⟨rfl, hb2, nv2, dv2, sv2, h2⟩
      obtain ⟨p2, e1, e2, e3, hf2⟩ := h2.toOwn.fss
      subst e1; subst e2; subst e3
      obtain ⟨x0, x1, x2⟩ := h2.bk.three
      have hal : Below w2.heap.size w2 (w2.alloc (.cells #[.string (str tx), .string (str [])] 49)) := (Below.refl _ _).alloc (Nat.le_refl _) _
      have h3 := h2.move hal
      have HON := Lib.hid (nds_one w2 ⟨tx, []⟩)
      have H3 := Lib.hid h3
      have hbb := ((hb1.mono HH.out.base).trans hb2).trans (hal.mono h2.base)
      have hrow := Lib.hid h3.nro
      have hby : (f.nodes.length + 1) * 32 ≤ 140737488355328 := by omega
      have hbase := h3.base
      clear d0 d1 d2 h3 h2 hf2
      simp only at *
      generalize (withE f.dir ⟨n, (f.nodes.length : Nat)⟩) = DD at *
      obtain ⟨an2, cn2, ad2, cd2, ay2, cy2⟩ := p2
      simp only at *
      go_wp2_with (at_builtin; refine wpList_append_nd rfl (.tmp 33) (.tmp 36) rfl B _ f.nodes rfl hrow.out (some ⟨w2.heap.size, 0, none⟩) 1 1 [⟨tx, []⟩] rfl rfl (fun h => by cases h) HON.out hby hbase ?_)
      intro v4 w4 hr4 hb4 hg4
      have hB4 := H3.out.bk.grown hg4 H3.out.gN
      have hO4 : Own w4 B ⟨f.nodes ++ [⟨tx, []⟩], DD, f.syn⟩ v4 (.slice ad2 DD.length cd2) (.slice ay2 f.syn.length cy2) := {
        nro := hr4
        dro := row_move H3.out.dro (fun g hg => hg4.block g (H3.out.dro.lt g hg).2 (row_kinds H3.out.dro H3.out.nro (by decide) hg))
        sro := row_move H3.out.sro (fun g hg => hg4.block g (H3.out.sro.lt g hg).2 (row_kinds H3.out.sro H3.out.nro (by decide) hg))
        far := H3.out.far
        nok := fun x hx => by
          rcases List.mem_append.1 hx with hx | hx
          · exact H3.out.nok x hx
          · rw [List.mem_singleton.1 hx]; exact ⟨ht, Nat.zero_le _⟩
        dok := H3.out.dok
        sok := H3.out.sok }
      have HC := Lib.hid (show Chg (w4.setCell ⟨G, 0, none⟩ v4) B G ⟨f.nodes ++ [⟨tx, []⟩], DD, f.syn⟩ v4 _ _ from H3.out.turn hB4 hO4 rfl)
      have hbB : Below B w (w4.setCell ⟨G, 0, none⟩ v4) := (hbb.trans hb4).setCell (p := ⟨G, 0, none⟩) H3.out.ge v4
      obtain ⟨y0, y1, y2⟩ := hB4.three
      have z0 := hB4.free 0
      obtain ⟨a3, k3, rfl, -, -⟩ := nrow_nds hr4
      clear hO4 hB4 hr4 hg4 x0 x1 x2
      generalize (f.nodes ++ [(⟨tx, []⟩ : Nd)]).length = N9 at *
      go_wp2_with fail
      go_ret
      exact ⟨rfl, hbB, fun _ => ⟨_, _, _, HC.out⟩⟩
end Go.Proofs.Ytmjcdjekakaigaa.Fs
