/- (*changed).turn. -/
import Derived.Test.YtmjcdjekakaigaaFsWr
namespace Go.Proofs.Ytmjcdjekakaigaa.Fs
open Go.RowKit
set_option linter.unusedVariables false

theorem enx_take (l : List En) (q : Nat) : (l.flatMap enx).take (q * 2) = (l.take q).flatMap enx := by
  induction l generalizing q with
  | nil => simp
  | cons y r ih =>
    cases q with
    | zero => simp
    | succ q => rw [List.flatMap_cons, List.take_succ_cons, List.flatMap_cons, show (q + 1) * 2 = (enx y).length + q * 2 by simp [enx]; omega, List.take_length_add_append, ih]
theorem enx_drop (l : List En) (q : Nat) : (l.flatMap enx).drop (q * 2) = (l.drop q).flatMap enx := by
  induction l generalizing q with
  | nil => simp
  | cons y r ih =>
    cases q with
    | zero => simp
    | succ q => rw [List.flatMap_cons, List.drop_succ_cons, show (q + 1) * 2 = (enx y).length + q * 2 by simp [enx]; omega, List.drop_length_add_append, ih]
/-- what Delete hands back -/
def DelEPost (B : Nat) (l : List En) (g : Nat) (w : World) (e : Ending) (w' : World) : Prop :=
  ∃ c, e = .returned (.slice (some ⟨g, 0, none⟩) l.length c) ∧ ERow B l (.slice (some ⟨g, 0, none⟩) l.length c) w' ∧ Below B w w' ∧ (∀ k, k ≠ g → w'.heap[k]? = w.heap[k]?)
theorem delete_any (B g n c q : Nat) (l : List En) (w : World) (h : ERow B l (.slice (some ⟨g, 0, none⟩) n c) w) (hq : q < l.length) (hl : l.length ≤ 1048576) :
    Calls Try.prog 56 #[.slice (some ⟨g, 0, none⟩) n c, .int .i64 q, .int .i64 ((q : Int) + 1)] w (DelEPost B (l.take q ++ l.drop (q + 1)) g w) := by
  obtain rfl : n = l.length := (row_cap h).1
  refine (delE_any B g l.length c q (l.flatMap enx) w h hq hl (enx_one l)).mono ?_
  rintro e w' ⟨v, rfl, ⟨rfl, hr⟩, hfar, hsz, _, hb⟩
  have hlen : (l.take q ++ l.drop (q + 1)).length = l.length - 1 := del_len q hq
  refine ⟨c, by rw [hlen], ?_, hb (World.ownsRow.lt h g rfl).1, hfar⟩
  unfold ERow
  rw [hlen, List.flatMap_append, ← enx_take, ← enx_drop]
  exact hr
/-- the directory less an entry, in the same block -/
theorem Own.del {w w' : World} {B g n c m c' : Nat} {f : T} {nv sv : Value} {l : List En} (h : Own w B f nv (.slice (some ⟨g, 0, none⟩) n c) sv) (hr : ERow B l (.slice (some ⟨g, 0, none⟩) m c') w') (hfar : ∀ k, k ≠ g → w'.heap[k]? = w.heap[k]?) (hl : ∀ x ∈ l, x ∈ f.dir) :
    Own w' B ⟨f.nodes, l, f.syn⟩ nv (.slice (some ⟨g, 0, none⟩) m c') sv where
  nro := row_move h.nro (fun k hk => hfar k (fun e => row_kinds h.nro h.dro (by decide) hk (by rw [e]; rfl)))
  dro := hr
  sro := row_move h.sro (fun k hk => hfar k (fun e => h.far g rfl (by rw [hk, e])))
  far := h.far
  nok := h.nok
  dok := fun x hx => h.dok x (hl x hx)
  sok := h.sok
def turnR (f : T) (o : Op) : T × Nat := if has f.dir o.name = false then (nul, 5) else (turned f o (nodeOf f.dir o.name), 0)
set_option maxHeartbeats 16000000 in
set_option maxRecDepth 100000 in
theorem turn_any (B G : Nat) (f : T) (o : Op) (nv dv sv : Value) (w : World) (h : Chg w B G f nv dv sv) (hup : Up f.dir) (hl : f.nodes.length ≤ 1048576) (hd : f.dir.length ≤ 1048570) (hr : ∀ e ∈ f.dir, 0 ≤ e.node ∧ e.node < (f.nodes.length : Int)) (ho : opOk o) (hk : o.kind = 2 ∨ o.kind = 3 ∨ o.kind = 4) :
    Calls Try.prog 51 #[.pointer (some ⟨G, 0, none⟩), opV o] w (ErrMet B G (turnR f o) w) := by
  have hal : Below w.heap.size w (w.alloc (.cells #[.int .i64 o.kind, .string (str o.name), .string (str o.to), .string (str o.text)] 27)) := (Below.refl _ _).alloc (Nat.le_refl _) _
  have hO : Bk (w.alloc (.cells #[.int .i64 o.kind, .string (str o.name), .string (str o.to), .string (str o.text)] 27)) w.heap.size 27 #[.int .i64 o.kind, .string (str o.name), .string (str o.to), .string (str o.text)] := bk_new _ _ _
  have h0 := h.move hal
  have hbal := hal.mono h.base
  unfold opV
  generalize hW : w.alloc (.cells #[.int .i64 o.kind, .string (str o.name), .string (str o.to), .string (str o.text)] 27) = W0 at *
  have HW := Lib.hid hW
  obtain ⟨p, e1, e2, e3, hf⟩ := h0.toOwn.fss
  subst e1; subst e2; subst e3
  obtain ⟨an, cn, ad, cd, ay, cy⟩ := p
  simp only at *
  have HP := Lib.hid (fun W (hb : Below W0.heap.size W0 W) => place_any o.name ad cd f.dir W (by omega) (hf.dir.next enAt_firm hb) hup)
  obtain ⟨c0, c1, c2⟩ := h0.bk.three
  obtain ⟨t0, t1, t2, t3⟩ := hO.four
  have HO := Lib.hid hO
  have HH := Lib.hid h0
  have hto := ho.2.2.1
  unfold turnR
  cases hh : has f.dir o.name with
  | false =>
    rw [if_pos rfl]
    rw [hh] at HP
    generalize pos f.dir o.name = q at *
    generalize str o.name = X at *
    generalize str o.to = Y at *
    generalize str o.text = Z at *
    clear h h0 hf hup hr hh hO hW ho
    go_enter Try.func51, Try.ntmps51
    go_wp2_with fail
    rw [HW.out]
    go_region_with (go_at_call 21; refine (HP.out _ (below_drewN (Below.refl _ _) 1)).mono ?_; rintro e w1 ⟨rfl, hb1⟩)
    all_goals (go_wp2_with fail; go_ret; exact ⟨rfl, hbal.trans ((below_then (below_drewN (Below.refl _ _) 1) hb1).mono HH.out.base), fun h => absurd h (by simp)⟩)
  | true =>
    rw [if_neg (by simp)]
    obtain ⟨g1, g2⟩ := (has_iff hup o.name).1 hh
    have g3 := nodeOf_at hup hh
    have g4 := hr _ (getD_mem f.dir nulE _ g1)
    rw [← g3] at g4
    obtain ⟨i, hi⟩ : ∃ i : Nat, nodeOf f.dir o.name = (i : Int) := ⟨(nodeOf f.dir o.name).toNat, by omega⟩
    have hil : i < f.nodes.length := by omega
    have hles := less_in hup hh
    have hlup := less_up hup o.name
    have hllen := less_len (l := f.dir) o.name
    rw [hi] at g3 ⊢
    rw [hh] at HP
    have HPOS := Lib.hid g1
    generalize pos f.dir o.name = q at *
    rcases hk with e | e | e
    · have hT : turned f o (i : Int) = ⟨landN f.nodes i true, f.dir, f.syn⟩ := by unfold turned; rw [if_pos e, Int.toNat_natCast]
      rw [hT]
      clear hT
      generalize str o.to = Y at *
      rw [e] at HO t0 HW
      generalize str o.name = X at *
      generalize str o.text = Z at *
      clear h h0 hf hup hr hh hO hW ho
      go_enter Try.func51, Try.ntmps51
      go_wp2_with fail
      rw [e, HW.out]
      clear e
      go_region_with (go_at_call 21; refine (HP.out _ (below_drewN (Below.refl _ _) 1)).mono ?_; rintro e w1 ⟨rfl, hb1⟩)
      all_goals (
        have hb01 := below_then (below_drewN (Below.refl W0.heap.size W0) 1) hb1
        have h1 := HH.out.move hb01
        obtain ⟨g, n9, c9, eq9, hn9, hBg, k0, k1, hfz, hlc, hcm⟩ := h1.dro.at HPOS.out
        injection eq9 with q1 q2 q3
        subst q1
        subst q2
        subst q3
        rw [← g3] at k1
        obtain ⟨d0, d1, d2⟩ := h1.bk.three
        obtain ⟨s0, s1, s2, s3⟩ := (HO.out.next hb01).four
        have H1 := Lib.hid h1
        have hbB := hbal.trans (hb01.mono HH.out.base)
        have hqI : (q : Int) < (f.dir.length : Int) := by omega
        unfold maxLen at hcm
        generalize (f.dir.getD q nulE).name = nm at *
        clear h1 hn9 hfz c0 c1 c2 t0 t1 t2 t3 g3 g1
        have HLA := Lib.hid (land_any B G i true f _ _ _ w1 H1.out hil)
        go_wp2_with fail
        refine (HLA.out).mono ?_
        rintro e w2 ⟨rfl, hb2, nv2, dv2, sv2, h2⟩
        have H2 := Lib.hid h2
        clear h2
        go_wp2_with fail
        go_ret
        exact ⟨rfl, hbB.trans hb2, fun _ => ⟨_, _, _, H2.out⟩⟩)
    · have hT : turned f o (i : Int) = ⟨f.nodes, withE (less f.dir o.name) ⟨o.to, i⟩, f.syn⟩ := by unfold turned; rw [if_neg (by rw [e]; simp), if_pos e]
      rw [hT]
      clear hT
      rw [e] at HO t0 HW
      generalize str o.name = X at *
      generalize str o.text = Z at *
      clear h h0 hf hup hr hh hO hW ho
      go_enter Try.func51, Try.ntmps51
      go_wp2_with fail
      rw [e, HW.out]
      clear e
      go_region_with (go_at_call 21; refine (HP.out _ (below_drewN (Below.refl _ _) 1)).mono ?_; rintro e w1 ⟨rfl, hb1⟩)
      all_goals (
        have hb01 := below_then (below_drewN (Below.refl W0.heap.size W0) 1) hb1
        have h1 := HH.out.move hb01
        obtain ⟨g, n9, c9, eq9, hn9, hBg, k0, k1, hfz, hlc, hcm⟩ := h1.dro.at HPOS.out
        injection eq9 with q1 q2 q3
        subst q1
        subst q2
        subst q3
        rw [← g3] at k1
        obtain ⟨d0, d1, d2⟩ := h1.bk.three
        obtain ⟨s0, s1, s2, s3⟩ := (HO.out.next hb01).four
        have H1 := Lib.hid h1
        have hbB := hbal.trans (hb01.mono HH.out.base)
        have hqI : (q : Int) < (f.dir.length : Int) := by omega
        unfold maxLen at hcm
        generalize (f.dir.getD q nulE).name = nm at *
        clear h1 hn9 hfz c0 c1 c2 t0 t1 t2 t3 g3 g1
        have HDE := Lib.hid (delete_any B g f.dir.length cd q f.dir w1 H1.out.dro HPOS.out (by omega))
        rw [← hles] at HDE
        clear hles
        generalize hLE : less f.dir o.name = LE at *
        go_wp2_with fail
        refine (HDE.out).mono ?_
        rintro e w2 ⟨c5, rfl, hr5, hb5, hfar⟩
        have hO2 := H1.out.toOwn.del hr5 hfar (fun x hx => by rw [← hLE] at hx; exact (mem_less.1 hx).1)
        have hB2 := H1.out.bk.move (hfar G (fun e => H1.out.gD (by rw [e]; rfl)))
        have HC2 := Lib.hid (show Chg (w2.setCell ⟨G, 1, none⟩ (.slice (some ⟨g, 0, none⟩) LE.length c5)) B G ⟨f.nodes, LE, f.syn⟩ _ _ _ from H1.out.turn hB2 hO2 rfl)
        have hbC : Below B w (w2.setCell ⟨G, 1, none⟩ (.slice (some ⟨g, 0, none⟩) LE.length c5)) := (hbB.trans hb5).setCell (p := ⟨G, 1, none⟩) H1.out.ge _
        obtain ⟨x0, x1, x2⟩ := hB2.three
        have y1 := hB2.free 1
        have HEN := Lib.hid (enter_any B G _ _ _ _ o.to (i : Int) _ HC2.out hlup (by show LE.length ≤ _; omega) hto (by omega))
        have hOw : w.heap.size ≠ g := fun e => by
          have h9 := (H1.out.dro.lt g rfl)
          obtain ⟨cc, fz, k9⟩ := Lib.ownsRow_kind H1.out.dro g rfl
          have h8 := HO.out.next hb01
          unfold Bk at h8
          rw [e, k9] at h8
          injection h8 with h8
          injection h8 with h8 h7
          exact absurd h7 (by decide)
        have hOG : w.heap.size ≠ G := fun e => by
          have h8 := HO.out.next hb01
          have h9 := H1.out.bk
          unfold Bk at h8 h9
          rw [e, h9] at h8
          injection h8 with h8
          injection h8 with h8 h7
          exact absurd h7 (by decide)
        have hO3 : Bk (w2.setCell ⟨G, 1, none⟩ (.slice (some ⟨g, 0, none⟩) LE.length c5)) w.heap.size _ _ := (HO.out.next hb01).move ((heap_set _ _ _ _ hOG).trans (hfar _ hOw))
        obtain ⟨u0, u1, u2, u3⟩ := hO3.four
        have hO4 := (HO.out.next hb01).move (hfar _ hOw)
        obtain ⟨v0, v1, v2, v3⟩ := hO4.four
        clear hO2 hB2 hr5 hfar hO3 hO4 hOw
        simp only at HEN
        generalize withE LE ⟨o.to, (i : Int)⟩ = WE at *
        generalize str o.to = Y at *
        go_wp2_with fail
        refine (HEN.out).mono ?_
        rintro e w5 ⟨rfl, hb6, nv6, dv6, sv6, h6⟩
        have H6 := Lib.hid h6
        clear h6
        go_wp2_with fail
        go_ret
        exact ⟨rfl, hbC.trans hb6, fun _ => ⟨_, _, _, H6.out⟩⟩)
    · have hT : turned f o (i : Int) = ⟨f.nodes, less f.dir o.name, f.syn⟩ := by unfold turned; rw [if_neg (by rw [e]; simp), if_neg (by rw [e]; simp)]
      rw [hT]
      clear hT
      generalize str o.to = Y at *
      rw [e] at HO t0 HW
      generalize str o.name = X at *
      generalize str o.text = Z at *
      clear h h0 hf hup hr hh hO hW ho
      go_enter Try.func51, Try.ntmps51
      go_wp2_with fail
      rw [e, HW.out]
      clear e
      go_region_with (go_at_call 21; refine (HP.out _ (below_drewN (Below.refl _ _) 1)).mono ?_; rintro e w1 ⟨rfl, hb1⟩)
      all_goals (
        have hb01 := below_then (below_drewN (Below.refl W0.heap.size W0) 1) hb1
        have h1 := HH.out.move hb01
        obtain ⟨g, n9, c9, eq9, hn9, hBg, k0, k1, hfz, hlc, hcm⟩ := h1.dro.at HPOS.out
        injection eq9 with q1 q2 q3
        subst q1
        subst q2
        subst q3
        rw [← g3] at k1
        obtain ⟨d0, d1, d2⟩ := h1.bk.three
        obtain ⟨s0, s1, s2, s3⟩ := (HO.out.next hb01).four
        have H1 := Lib.hid h1
        have hbB := hbal.trans (hb01.mono HH.out.base)
        have hqI : (q : Int) < (f.dir.length : Int) := by omega
        unfold maxLen at hcm
        generalize (f.dir.getD q nulE).name = nm at *
        clear h1 hn9 hfz c0 c1 c2 t0 t1 t2 t3 g3 g1
        have HDE := Lib.hid (delete_any B g f.dir.length cd q f.dir w1 H1.out.dro HPOS.out (by omega))
        rw [← hles] at HDE
        clear hles
        generalize hLE : less f.dir o.name = LE at *
        go_wp2_with fail
        refine (HDE.out).mono ?_
        rintro e w2 ⟨c5, rfl, hr5, hb5, hfar⟩
        have hO2 := H1.out.toOwn.del hr5 hfar (fun x hx => by rw [← hLE] at hx; exact (mem_less.1 hx).1)
        have hB2 := H1.out.bk.move (hfar G (fun e => H1.out.gD (by rw [e]; rfl)))
        have HC2 := Lib.hid (show Chg (w2.setCell ⟨G, 1, none⟩ (.slice (some ⟨g, 0, none⟩) LE.length c5)) B G ⟨f.nodes, LE, f.syn⟩ _ _ _ from H1.out.turn hB2 hO2 rfl)
        have hbC : Below B w (w2.setCell ⟨G, 1, none⟩ (.slice (some ⟨g, 0, none⟩) LE.length c5)) := (hbB.trans hb5).setCell (p := ⟨G, 1, none⟩) H1.out.ge _
        obtain ⟨x0, x1, x2⟩ := hB2.three
        have y1 := hB2.free 1
        clear hO2 hB2 hr5 hfar
        go_wp2_with fail
        go_ret
        exact ⟨rfl, hbC, fun _ => ⟨_, _, _, HC2.out⟩⟩)
end Go.Proofs.Ytmjcdjekakaigaa.Fs
