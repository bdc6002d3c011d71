/- (*changed).enter. -/
import Derived.Test.YtmjcdjekakaigaaFsIns2
import Derived.Test.YtmjcdjekakaigaaFsP2
namespace Go.Proofs.Ytmjcdjekakaigaa.Fs
open Go.RowKit
set_option linter.unusedVariables false

set_option maxHeartbeats 2000000 in
set_option maxRecDepth 100000 in
theorem enter_any (B G : Nat) (f : T) (nv dv sv : Value) (n : S) (k : Int) (w : World) (h : Chg w B G f nv dv sv) (hup : Up f.dir) (hd : f.dir.length ≤ 1048570) (hn : n.length ≤ maxLen) (hk : -9223372036854775808 ≤ k ∧ k ≤ 9223372036854775807) :
    Calls Try.prog 55 #[.pointer (some ⟨G, 0, none⟩), .string (str n), .int .i64 k] w (MetPost B G ⟨f.nodes, withE f.dir ⟨n, k⟩, f.syn⟩ w) := by
  obtain ⟨p, e1, e2, e3, hf⟩ := h.toOwn.fss
  subst e1; subst e2; subst e3
  obtain ⟨an, cn, ad, cd, ay, cy⟩ := p
  simp only at *
  have HP := Lib.hid (place_any n ad cd f.dir w (by omega) hf.dir hup)
  obtain ⟨c0, c1, c2⟩ := h.bk.three
  have HH := Lib.hid h
  have hok : enOk ⟨n, k⟩ := ⟨hn, hk⟩
  cases hh : has f.dir n with
  | true =>
    have hw := withE_in hup n k hh
    obtain ⟨g1, g2⟩ := (has_iff hup n).1 hh
    rw [hh] at HP
    rw [hw]
    generalize hq : pos f.dir n = q at *
    clear h hf hup
    go_enter Try.func55, Try.ntmps55
    go_wp2_with fail
    refine (HP.out).mono ?_
    rintro e w1 ⟨rfl, hb1⟩
    have h1 := HH.out.move hb1
    obtain ⟨g, n9, c9, eq9, hn9, hBg, k0, k1, hfz, hlc, hcm⟩ := h1.dro.at g1
    injection eq9 with q1 q2 q3
    subst q1; subst q2; subst q3
    obtain ⟨d0, d1, d2⟩ := h1.bk.three
    have hP := h1.putD (i := q) (j := 1) (u := .int .i64 k) (y := ⟨n, k⟩) g1 (by omega) (by unfold enx; rw [g2]; rfl) hok
    have HPD := Lib.hid hP
    have hbB : Below B w (w1.setCell ⟨g, q * 2 + 1, none⟩ (.int .i64 k)) := (hb1.mono HH.out.base).setCell (p := ⟨g, q * 2 + 1, none⟩) hBg _
    have z1 := hfz (q * 2 + 1)
    have hqI : (q : Int) < (f.dir.length : Int) := by omega
    clear h1 hP hn9 hfz c0 c1 c2
    unfold maxLen at hcm
    go_wp2_with fail
    go_end0
    exact ⟨rfl, hbB, _, _, _, HPD.out⟩
  | false =>
    have hw := withE_out hup n k hh
    rw [hh] at HP
    rw [hw]
    have hql := pos_le f.dir n
    generalize hq : pos f.dir n = q at *
    clear h hf hup
    go_enter Try.func55, Try.ntmps55
    go_wp2_with fail
    refine (HP.out).mono ?_
    rintro e w1 ⟨rfl, hb1⟩
    have h1 := HH.out.move hb1
    obtain ⟨d0, d1, d2⟩ := h1.bk.three
    have hal : Below w1.heap.size w1 (w1.alloc (.cells #[.string (str n), .int .i64 k] 47)) := (Below.refl _ _).alloc (Nat.le_refl _) _
    have h2 := h1.move hal
    have hV := bk_new w1 47 #[.string (str n), .int .i64 k]
    have HI := Lib.hid (insert_any B w1.heap.size q (.slice ad f.dir.length cd) f.dir ⟨n, k⟩ _ h2.dro h2.base hql (by omega) hV (fun e => by have := (h1.dro.lt _ e).2; omega))
    have H2 := Lib.hid h2
    have hbb := (hb1.mono HH.out.base).trans (hal.mono (h1.base))
    clear h1 h2 hV c0 c1 c2
    go_wp2_with fail
    refine (HI.out).mono ?_
    rintro e w3 ⟨v3, rfl, hr3, hb3, hfar, hsz, hblk⟩
    have hG3 : w3.heap[G]? = (w1.alloc (.cells #[.string (str n), .int .i64 k] 47)).heap[G]? := hfar G H2.out.bk.lt H2.out.gD
    have hO3 : Own w3 B ⟨f.nodes, f.dir.take q ++ ⟨n, k⟩ :: f.dir.drop q, f.syn⟩ (.slice an f.nodes.length cn) v3 (.slice ay f.syn.length cy) := {
      nro := row_move H2.out.nro (fun g hg => hfar g (H2.out.nro.lt g hg).2 (row_kinds H2.out.nro H2.out.dro (by decide) hg))
      dro := hr3
      sro := row_move H2.out.sro (fun g hg => hfar g (H2.out.sro.lt g hg).2 (fun e => H2.out.far g e.symm hg))
      far := fun g hg hg' => by
        rcases hblk g hg with h9 | h9
        · exact H2.out.far g h9 hg'
        · have := (H2.out.sro.lt g hg').2; omega
      nok := H2.out.nok
      dok := fun x hx => by
        rcases List.mem_append.1 hx with hx | hx
        · exact H2.out.dok x (List.mem_of_mem_take hx)
        · rcases List.mem_cons.1 hx with hx | hx
          · rw [hx]; exact hok
          · exact H2.out.dok x (List.mem_of_mem_drop hx)
      sok := H2.out.sok }
    have hB3 := H2.out.bk.move hG3
    have HC := Lib.hid (show Chg (w3.setCell ⟨G, 1, none⟩ v3) B G ⟨f.nodes, f.dir.take q ++ ⟨n, k⟩ :: f.dir.drop q, f.syn⟩ _ v3 _ from H2.out.turn hB3 hO3 rfl)
    have hbB : Below B w (w3.setCell ⟨G, 1, none⟩ v3) := (hbb.trans hb3).setCell (p := ⟨G, 1, none⟩) H2.out.ge v3
    obtain ⟨x0, x1, x2⟩ := hB3.three
    have y1 := hB3.free 1
    obtain ⟨a3, k3, rfl, -, -⟩ := erow_ens hr3
    clear hO3 hB3 hG3 hr3 hfar hblk d0 d1 d2
    generalize (f.dir.take q ++ (⟨n, k⟩ : En) :: f.dir.drop q).length = N9 at *
    go_wp2_with fail
    go_end0
    exact ⟨rfl, hbB, _, _, _, HC.out⟩
end Go.Proofs.Ytmjcdjekakaigaa.Fs
