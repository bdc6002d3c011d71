/- The walk of the reference's Swept. -/
import Derived.Test.YtmjcdjekakaigaaFsR6
import Derived.Deep.RegionLaw
namespace Go.Proofs.Ytmjcdjekakaigaa.Fs
open Go.RowKit
set_option linter.unusedVariables false

theorem row_put3 {w : World} {B RB : Nat} {e t : TypeId} {sz : Nat} {v : Value} {n : Nat} {xs : List Value} {vs : Array Value} (h : w.ownsRow B e sz v n xs) (hb : Bk w RB t vs) (hne : e ≠ t) (x y z : Value) :
    (((w.setCell ⟨RB, 0, none⟩ x).setCell ⟨RB, 1, none⟩ y).setCell ⟨RB, 2, none⟩ z).ownsRow B e sz v n xs := row_move h (fun g hg => by
  have hn : g ≠ RB := fun e => bk_kind h hb hne (by rw [hg, e])
  rw [heap_set _ _ _ _ hn, heap_set _ _ _ _ hn, heap_set _ _ _ _ hn])
theorem moved_enok {d s l : List En} (h : ∀ e ∈ l, enOk e) (hr : ∀ e ∈ l, 0 ≤ e.node ∧ e.node ≤ 1048576) : ∀ e ∈ moved d s l, enOk e := by
  intro e he
  unfold moved at he
  obtain ⟨x, hx, rfl⟩ := List.mem_map.1 he
  have h1 := hr x hx
  have h2 := fewer_le d s x.node.toNat
  exact ⟨(h x hx).1, by simp only; omega, by simp only; omega⟩
theorem step_append_nd {w : World} {ops : Array Oper} {o : Oper} {a : Act} {K : Act → World → Prop} {Q : Exit → Act → World → Prop} {E : Prop} (hw : Region.wanted o (yielded ops a.tmps) = true) (s x : Operand)
    (ho : o.op = .call { callee := .builtin .append, args := #[s, x], argTypes := #[22, 22] }) (base : Nat)
    (v : Value) (xs : List Nd) (hs : a.eval s = v) (hown : NRow base xs v w)
    (A : Option Addr) (m c : Nat) (l : List Nd) (hm : l.length = m) (hx : a.eval x = .slice A m c) (hnil : A = none → c = 0) (hu : Nds w w.heap.size A l)
    (hbytes : (xs.length + m) * 32 ≤ 140737488355328) (hbase : base ≤ w.heap.size)
    (h : ∀ v' w', NRow base (xs ++ l) v' w' → Below base w w' → w.grownBy w' v.ownBlock → K (a.put o.dst v') w') :
    if Region.wanted o (yielded ops a.tmps) = true then Oper.wp Try.prog o a w K Q else E := by
  rw [if_pos hw]
  exact wp_append_nd s x ho base v xs hs hown A m c l hm hx hnil hu hbytes hbase h
/-- what the reference hands back: a file system that can be read -/
def RFsPost (r : T) (w : World) (e : Ending) (w' : World) : Prop := ∃ p : At, e = .returned (fsV p r) ∧ Fss w' w'.heap.size p r ∧ Below w.heap.size w w'
def RFsEPost (r : T × Nat) (w : World) (e : Ending) (w' : World) : Prop := ∃ p : At, e = .returned (.tuple #[fsV p r.1, .int .i64 (r.2 : Nat)]) ∧ Fss w' w'.heap.size p r.1 ∧ Below w.heap.size w w'
theorem erow_read {B : Nat} {l : List En} {v : Value} {w : World} (h : ERow B l v w) : ∃ a c, v = .slice a l.length c ∧ capOk l.length c a ∧ Ens w w.heap.size a l := by
  obtain ⟨a, c, e, h1, h2⟩ := erow_ens h
  exact ⟨a, c, e, h2, h1⟩
/-- the block that Swept lays its result in -/
structure Laid (WF : World) (B O : Nat) (d s : List En) (v1 v2 : Value) : Prop where
  ge : B ≤ O
  bk : Bk WF O 25 #[.slice none 0 0, v1, v2]
  dro : ∃ B1, ERow B1 d v1 WF
  sro : ∃ B2, ERow B2 s v2 WF
theorem laid_new {w9 : World} {B B1 B2 : Nat} {d s : List En} {v1 v2 : Value} (h1 : ERow B1 d v1 w9) (h2 : ERow B2 s v2 w9) (hB : B ≤ w9.heap.size) : Laid (w9.alloc (.cells #[.slice none 0 0, v1, v2] 25)) B w9.heap.size d s v1 v2 :=
  ⟨hB, bk_new _ _ _, ⟨B1, World.ownsRow.alloc h1 _⟩, ⟨B2, World.ownsRow.alloc h2 _⟩⟩
theorem laid_put {w9 : World} {B B1 B2 O : Nat} {d s : List En} {v1 v2 : Value} (h1 : ERow B1 d v1 w9) (h2 : ERow B2 s v2 w9) (hB : B ≤ O) (hb : Bk w9 O 25 #[.slice none 0 0, .slice none 0 0, .slice none 0 0]) :
    Laid (((w9.setCell ⟨O, 0, none⟩ (.slice none 0 0)).setCell ⟨O, 1, none⟩ v1).setCell ⟨O, 2, none⟩ v2) B O d s v1 v2 := by
  have hk : ∀ {B l v}, ERow B l v w9 → ERow B l v (((w9.setCell ⟨O, 0, none⟩ (.slice none 0 0)).setCell ⟨O, 1, none⟩ v1).setCell ⟨O, 2, none⟩ v2) := fun {B l v} h => row_move h (fun g hg => by
    have hne : g ≠ O := fun e => bk_kind h hb (by decide) (by rw [hg, e])
    rw [heap_set _ _ _ _ hne, heap_set _ _ _ _ hne, heap_set _ _ _ _ hne])
  refine ⟨hB, ?_, ⟨B1, hk h1⟩, ⟨B2, hk h2⟩⟩
  have := ((hb.set 0 (.slice none 0 0)).set 1 v1).set 2 v2
  simpa using this
theorem bk_drew {w : World} {b : Nat} {t : TypeId} {vs : Array Value} (h : Bk w b t vs) : Bk w.drew b t vs := h
set_option maxHeartbeats 8000000 in
set_option maxRecDepth 100000 in
theorem rSwept_any (p : At) (f : T) (w : World) (h : Fss w w.heap.size p f) (hnr : f.nodes.length ≤ 1048576 ∧ f.dir.length ≤ 1048576 ∧ f.syn.length ≤ 1048576) (hr : ∀ e, e ∈ f.dir ∨ e ∈ f.syn → 0 ≤ e.node ∧ e.node ≤ 1048576) :
    Calls Try.prog 30 #[fsV p f] w (RFsPost (swept f) w) := by
  have hal0 := (Below.refl w.heap.size w).alloc (Nat.le_refl _) (.cells #[.slice p.an f.nodes.length p.cn, .slice p.ad f.dir.length p.cd, .slice p.ay f.syn.length p.cy] 25)
  have hT0 := bk_new w 25 #[.slice p.an f.nodes.length p.cn, .slice p.ad f.dir.length p.cd, .slice p.ay f.syn.length p.cy]
  have hF0 := h.next hal0
  have e1 : (w.alloc (.cells #[.slice p.an f.nodes.length p.cn, .slice p.ad f.dir.length p.cd, .slice p.ay f.syn.length p.cy] 25)).heap.size = w.heap.size + 1 := by simp
  generalize hWa : w.alloc (.cells #[.slice p.an f.nodes.length p.cn, .slice p.ad f.dir.length p.cd, .slice p.ay f.syn.length p.cy] 25) = Wa at *
  have hal2 := (Below.refl Wa.heap.size Wa).alloc (Nat.le_refl _) (.cells #[.slice none 0 0, .slice none 0 0, .slice none 0 0] 25)
  have hR := bk_new Wa 25 #[.slice none 0 0, .slice none 0 0, .slice none 0 0]
  have hT2 := hT0.next hal2
  have hF2 := hF0.next hal2
  generalize hWc : Wa.alloc (.cells #[.slice none 0 0, .slice none 0 0, .slice none 0 0] 25) = W0 at *
  rw [e1] at hR
  have hal : Below w.heap.size w W0 := hal0.trans (hal2.mono (by omega))
  have HW := Lib.hid (show (w.alloc (.cells #[.slice p.an f.nodes.length p.cn, .slice p.ad f.dir.length p.cd, .slice p.ay f.syn.length p.cy] 25)).alloc (.cells #[.slice none 0 0, .slice none 0 0, .slice none 0 0] 25) = W0 by rw [hWa, hWc])
  have HT := Lib.hid hT2
  have HR := Lib.hid hR
  have HF := Lib.hid hF2
  have HMD := Lib.hid (fun W (hb : Below W0.heap.size W0 W) => rMoved_any p f p.ad p.cd f.dir W (hF2.next hb) hnr.2.1 (hF2.dir.next enAt_firm hb) (fun e he => hr e (Or.inl he)))
  have HMS := Lib.hid (fun W (hb : Below W0.heap.size W0 W) => rMoved_any p f p.ay p.cy f.syn W (hF2.next hb) hnr.2.2 (hF2.syn.next enAt_firm hb) (fun e he => hr e (Or.inr he)))
  have HNA := Lib.hid (fun (i : Int) W (hb : Below W0.heap.size W0 W) => rNamed_any p.ad p.ay p.cd p.cy f.dir f.syn i W (by unfold maxLen; omega) (by unfold maxLen; omega) (hF2.dir.next enAt_firm hb) (hF2.syn.next enAt_firm hb))
  have hs0 := hal.size
  obtain ⟨RB, hRB⟩ : ∃ RB, RB = w.heap.size + 1 := ⟨_, rfl⟩
  have HRBW := Lib.hid (show w.heap.size ≤ RB by omega)
  rw [← hRB] at HR
  have hRB1 := HR.out.lt
  have hself : Below W0.heap.size W0 W0 := Below.refl _ _
  obtain ⟨an, cn, ad, cd, ay, cy⟩ := p
  unfold fsV at *
  simp only at *
  have HOKN := Lib.hid (show ∀ x ∈ keepN f.dir f.syn f.nodes f.nodes.length, ndOk x from fun x hx => by
    unfold keepN at hx
    obtain ⟨i, hi, rfl⟩ := List.mem_map.1 hx
    exact h.nok _ (getD_mem f.nodes nulN i (List.mem_range.1 (List.mem_filter.1 hi).1)))
  have HOKD := Lib.hid (moved_enok (d := f.dir) (s := f.syn) h.dok (fun e he => hr e (Or.inl he)))
  have HOKS := Lib.hid (moved_enok (d := f.dir) (s := f.syn) h.sok (fun e he => hr e (Or.inr he)))
  have HSW := Lib.hid (show swept f = ⟨keepN f.dir f.syn f.nodes f.nodes.length, moved f.dir f.syn f.dir, moved f.dir f.syn f.syn⟩ from rfl)
  generalize swept f = R at *
  have d0 : ∀ W, Below W0.heap.size W0 W → W.cell? ⟨w.heap.size, 0, none⟩ = some (.slice an f.nodes.length cn) := fun W hb => (HT.out.next hb).three.1
  have d1 : ∀ W, Below W0.heap.size W0 W → W.cell? ⟨w.heap.size, 1, none⟩ = some (.slice ad f.dir.length cd) := fun W hb => (HT.out.next hb).three.2.1
  have d2 : ∀ W, Below W0.heap.size W0 W → W.cell? ⟨w.heap.size, 2, none⟩ = some (.slice ay f.syn.length cy) := fun W hb => (HT.out.next hb).three.2.2
  clear hWa hWc hal0 hal2 hT0 hT2 hF0 hF2 hR e1 h hr
  go_enter Try.func30, Try.ntmps30
  go_wp2_with fail
  rw [HW.out, ← hRB]
  clear hRB
  have HZ := Lib.hid (fun (W W' : World) (b : Nat) (hz : Bk W b 25 #[.slice none 0 0, .slice none 0 0, .slice none 0 0]) (hb : Below W.heap.size W W') => show (Bk W' b 25 #[.slice none 0 0, .slice none 0 0, .slice none 0 0]) ∧ (W'.cell? ⟨b, 0, none⟩ = some (.slice none 0 0) ∧ W'.cell? ⟨b, 1, none⟩ = some (.slice none 0 0) ∧ W'.cell? ⟨b, 2, none⟩ = some (.slice none 0 0)) ∧ W'.frozen? ⟨b, 0, none⟩ = false ∧ W'.frozen? ⟨b, 1, none⟩ = false ∧ W'.frozen? ⟨b, 2, none⟩ = false from
    have h := hz.next hb
    ⟨h, h.three, h.free 0, h.free 1, h.free 2⟩)
  go_region_held3 (fun W => Below W0.heap.size W0 W)
    (first
      | assumption
      | exact (show Below W0.heap.size W0 _ by assumption).drew
      | exact (show Below W0.heap.size W0 _ by assumption).alloc (show Below W0.heap.size W0 _ by assumption).size _
      | exact below_then (by assumption) hb9
      | exact below_then (by assumption) hb8
      | exact (((show Below W0.heap.size W0 _ by assumption).setCell (p := ⟨_, 0, none⟩) (by first | assumption | exact Nat.le_refl _) _).setCell (p := ⟨_, 1, none⟩) (by first | assumption | exact Nat.le_refl _) _).setCell (p := ⟨_, 2, none⟩) (by first | assumption | exact Nat.le_refl _) _
      | exact Below.trans (by assumption) (hb9.mono (show Below W0.heap.size W0 _ by assumption).size)
      | exact Below.trans (by assumption) hb9
      | exact Below.trans (by assumption) (hb8.mono (show Below W0.heap.size W0 _ by assumption).size)
      | exact Below.trans (by assumption) hb8)
    (first
      | (go_at_call 45; (with_reducible refine (HMD.out _ (by assumption)).mono ?_); rintro e w8 ⟨v1, rfl, hr1, hb8⟩; obtain ⟨a1, k1, rfl, hq1, hu1⟩ := erow_read hr1; have hs8 := Nat.le_trans (show Below W0.heap.size W0 _ by assumption).size hb8.size; have hS8 := Below.trans (show Below W0.heap.size W0 _ by assumption) (hb8.mono (show Below W0.heap.size W0 _ by assumption).size); obtain ⟨hcA, hfA⟩ := bcell hb8; (try simp at hcA); (try simp at hfA); have hz8 := hb8.size; (try simp at hz8); (try have hz9 := Nat.lt_of_succ_le hz8))
      | (go_at_call 45; (with_reducible refine (HMS.out _ (by assumption)).mono ?_); rintro e w9 ⟨v2, rfl, hr2, hb9⟩; obtain ⟨a2, k2, rfl, hq2, hu2⟩ := erow_read hr2; have hr12 : ERow _ (moved f.dir f.syn f.dir) (.slice a1 (moved f.dir f.syn f.dir).length k1) w9 := by { first | exact hr1.below hb9 | exact ERow.below (World.ownsRow.alloc hr1 _) hb9 }; have hs9 := Nat.le_trans (show Below W0.heap.size W0 _ by assumption).size hb9.size; have hS9 := Below.trans (show Below W0.heap.size W0 _ by assumption) (hb9.mono (show Below W0.heap.size W0 _ by assumption).size); obtain ⟨hcB, hfB⟩ := bcell hb9; (try simp at hcB); (try simp at hfB)))
  · have hL := laid_new (B := W0.heap.size) hr12 hr2 (show Below W0.heap.size W0 w9 by assumption).size
    have hbF : Below W0.heap.size W0 (w9.alloc (.cells #[.slice none 0 0, .slice a1 (moved f.dir f.syn f.dir).length k1, .slice a2 (moved f.dir f.syn f.syn).length k2] 25)) := (show Below W0.heap.size W0 w9 by assumption).alloc (show Below W0.heap.size W0 w9 by assumption).size _
    generalize (w9.alloc (.cells #[.slice none 0 0, .slice a1 (moved f.dir f.syn f.dir).length k1, .slice a2 (moved f.dir f.syn f.syn).length k2] 25)) = WF at *
    obtain ⟨O, hOe⟩ : ∃ O, O = w9.heap.size := ⟨_, rfl⟩
    obtain ⟨hO, hbk, hd1, hd2⟩ := hL
    rw [← hOe] at hbk ⊢
    have hO : W0.heap.size ≤ O := by omega
    clear hOe
    have HBK := Lib.hid hbk
    have HD1 := Lib.hid hd1
    have HD2 := Lib.hid hd2
    have HBF := Lib.hid hbF
    clear hbk hd1 hd2 hbF
    obtain ⟨V1, hV1⟩ : ∃ V1, V1 = Value.slice a1 (moved f.dir f.syn f.dir).length k1 := ⟨_, rfl⟩
    obtain ⟨V2, hV2⟩ : ∃ V2, V2 = Value.slice a2 (moved f.dir f.syn f.syn).length k2 := ⟨_, rfl⟩
    rw [← hV1, ← hV2] at HBK ⊢
    rw [← hV1] at HD1
    rw [← hV2] at HD2
    clear hV1 hV2 hr1 hr2 hr12 hq1 hq2 hu1 hu2
    go_wp2_with fail
    go_loopw [4] (fun i wr => ∃ (k : Nat) (nv : Value), k ≤ f.nodes.length ∧ i = .int .i64 k ∧ Hid (NRow W0.heap.size (keepN f.dir f.syn f.nodes k) nv wr) ∧ Hid (Bk wr O 25 #[nv, V1, V2]) ∧ Hid (∃ B1, ERow B1 (moved f.dir f.syn f.dir) V1 wr) ∧ Hid (∃ B2, ERow B2 (moved f.dir f.syn f.syn) V2 wr) ∧ Below W0.heap.size W0 wr) (fun i _ => f.nodes.length - (intOf i).toNat)
    case atStart => exact ⟨0, _, by omega, rfl, Lib.hid (nnil _ _), HBK, HD1, HD2, HBF.out⟩
    case round =>
      obtain ⟨k, nv, hk, rfl, HNR, HB, HE1, HE2, hbw⟩ := hrel
      have t0 := d0 _ hbw
      have t1 := d1 _ hbw
      have t2 := d2 _ hbw
      have o0 := HB.out.three
      obtain ⟨o0, o1, o2⟩ := o0
      by_cases hlt : k < f.nodes.length
      · obtain ⟨bb, off, rfl, hbb, hcc⟩ := HF.out.nds (fun e => by rw [e] at hlt; simp at hlt)
        obtain ⟨q0, q1⟩ := hcc k hlt
        have c0 : ∀ W, Below W0.heap.size W0 W → W.cell? ⟨bb, off + k * 2, none⟩ = some (.string (str (f.nodes.getD k nulN).live)) := fun W hb => (hb.cell (p := ⟨bb, off + k * 2, none⟩) hbb).trans q0
        have c1 : ∀ W, Below W0.heap.size W0 W → W.cell? ⟨bb, off + k * 2 + 1, none⟩ = some (.string (str (f.nodes.getD k nulN).syn)) := fun W hb => (hb.cell (p := ⟨bb, off + k * 2 + 1, none⟩) hbb).trans q1
        have hkI : (k : Int) < (f.nodes.length : Int) := by omega
        have HCALL := Lib.hid (HNA.out (k : Int) wr hbw)
        have HYN := Lib.hid (show (named f.dir f.syn (k : Int) = true → keepN f.dir f.syn f.nodes (k + 1) = keepN f.dir f.syn f.nodes k ++ [f.nodes.getD k nulN]) ∧ (named f.dir f.syn (k : Int) = false → keepN f.dir f.syn f.nodes (k + 1) = keepN f.dir f.syn f.nodes k) from ⟨keepN_yes f.nodes, keepN_no f.nodes⟩)
        have HON := Lib.hid (fun W => nds_one W (f.nodes.getD k nulN))
        have hkl := keepN_len f.dir f.syn f.nodes k
        have hfl := fewer_le f.dir f.syn k
        have hkm : ((keepN f.dir f.syn f.nodes k).length + 1) * 32 ≤ 140737488355328 := by omega
        clear hkl hfl q0 q1 hcc
        generalize str (f.nodes.getD k nulN).live = X at *
        generalize str (f.nodes.getD k nulN).syn = Y at *
        generalize f.nodes.getD k nulN = nd at *
        generalize keepN f.dir f.syn f.nodes k = K at *
        generalize hbo : named f.dir f.syn (k : Int) = bo at *
        clear hbo
        cases bo with
        | false =>
          have HN := Lib.hid (show NRow W0.heap.size (keepN f.dir f.syn f.nodes (k + 1)) nv wr by rw [HYN.out.2 rfl]; exact HNR.out)
          clear HYN
          go_wp2_with fail
          refine (HCALL.out).mono ?_
          rintro e w5 ⟨rfl, rfl⟩
          go_wp2_with fail
          exact ⟨⟨k + 1, nv, by omega, by go_num, HN, HB, HE1, HE2, hbw⟩, by simp [intOf]; omega⟩
        | true =>
          have HY := Lib.hid (HYN.out.1 rfl)
          clear HYN
          go_wp2_with fail
          refine (HCALL.out).mono ?_
          rintro e w5 ⟨rfl, rfl⟩
          go_wp2_with fail
          have hbA : Below W0.heap.size W0 (w5.alloc (.cells #[.string X, .string Y] 49)) := hbw.alloc hbw.size _
          have hkl5 := hbw.size
          have HBA := Lib.hid (HB.out.next ((Below.refl w5.heap.size w5).alloc (Nat.le_refl _) (.cells #[.string X, .string Y] 49)))
          have HNA5 := Lib.hid (show NRow W0.heap.size K nv (w5.alloc (.cells #[.string X, .string Y] 49)) from World.ownsRow.alloc HNR.out _)
          have HK5 := Lib.hid (fun (v6 : Value) (w6 : World) (hr6 : NRow W0.heap.size (K ++ [nd]) v6 w6) (hg6 : (w5.alloc (.cells #[.string X, .string Y] 49)).drew.grownBy w6 nv.ownBlock) => show Bk w6 O 25 #[nv, V1, V2] from Bk.grown (w := (w5.alloc (.cells #[.string X, .string Y] 49)).drew) HBA.out hg6 (bk_kind HNA5.out HBA.out (by decide)))
          have hd10 : ∀ W, Below W0.heap.size W0 W → W.cell? ⟨w.heap.size, 0, none⟩ = some (.slice (some ⟨bb, off, none⟩) f.nodes.length cn) := d0
          have cc0 := c0 _ hbw
          have cc1 := c1 _ hbw
          have HNX := Lib.hid (fun (v6 : Value) (w6 : World) (h1 : NRow W0.heap.size (K ++ [nd]) v6 w6) (h2 : Below W0.heap.size (w5.alloc (.cells #[.string X, .string Y] 49)).drew w6) (h3 : (w5.alloc (.cells #[.string X, .string Y] 49)).drew.grownBy w6 nv.ownBlock) =>
            show NRow W0.heap.size (keepN f.dir f.syn f.nodes (k + 1)) v6 (w6.setCell ⟨O, 0, none⟩ v6) ∧ Bk (w6.setCell ⟨O, 0, none⟩ v6) O 25 #[v6, V1, V2] ∧ (∃ B1, ERow B1 (moved f.dir f.syn f.dir) V1 (w6.setCell ⟨O, 0, none⟩ v6)) ∧ (∃ B2, ERow B2 (moved f.dir f.syn f.syn) V2 (w6.setCell ⟨O, 0, none⟩ v6)) ∧ Below W0.heap.size W0 (w6.setCell ⟨O, 0, none⟩ v6) from by
              have b6 := HK5.out v6 w6 h1 h3
              rw [HY.out]
              refine ⟨row_move h1 (fun g hg => heap_set _ _ _ _ (fun e => bk_kind h1 b6 (by decide) (by rw [hg]; exact congrArg some e.symm))), by have := b6.set 0 v6; simpa using this, ?_, ?_, (hbA.drew.trans h2).setCell (p := ⟨O, 0, none⟩) hO _⟩
              · obtain ⟨B1, hB1⟩ := HE1.out
                have hA := World.ownsRow.alloc hB1 (.cells #[.string X, .string Y] 49)
                have h6 : ERow B1 _ V1 w6 := row_move hA (fun g hg => h3.block g (World.ownsRow.lt hA g hg).2 (fun e => row_kinds HNA5.out hA (by decide) e.symm hg.symm))
                exact ⟨B1, row_move h6 (fun g hg => heap_set _ _ _ _ (fun e => bk_kind h6 b6 (by decide) (by rw [hg]; exact congrArg some e.symm)))⟩
              · obtain ⟨B1, hB1⟩ := HE2.out
                have hA := World.ownsRow.alloc hB1 (.cells #[.string X, .string Y] 49)
                have h6 : ERow B1 _ V2 w6 := row_move hA (fun g hg => h3.block g (World.ownsRow.lt hA g hg).2 (fun e => row_kinds HNA5.out hA (by decide) e.symm hg.symm))
                exact ⟨B1, row_move h6 (fun g hg => heap_set _ _ _ _ (fun e => bk_kind h6 b6 (by decide) (by rw [hg]; exact congrArg some e.symm)))⟩)
          have oA := HBA.out.three.1
          go_region_law (first | (refine step_append_nd ?_ (.tmp 28) (.tmp 34) rfl W0.heap.size nv K rfl ?_ _ 1 1 [nd] rfl rfl (fun h => by cases h) (HON.out _) hkm ?_ ?_; rfl; (exact HNA5.out); (exact hbA.size); intro v6 w6 hr6 hb6 hg6; have hB6 := HK5.out v6 w6 hr6 hg6; have hf6 := hB6.free 0; have hc6 := hB6.three.1; obtain ⟨a6, c6, e6, hq6, hu6⟩ := nrow_nds hr6; obtain ⟨L6, hL6⟩ : ∃ L, L = (K ++ [nd]).length := ⟨_, rfl⟩; rw [← hL6] at e6; clear hL6; subst e6))
          all_goals (
            obtain ⟨x1, x2, x3, x4, x5⟩ := HNX.out _ _ hr6 hb6 hg6
            have X1 := Lib.hid x1
            have X2 := Lib.hid x2
            have X3 := Lib.hid x3
            have X4 := Lib.hid x4
            clear x1 x2 x3 x4 hB6 hf6 hc6 hg6 hr6
            go_wp2_with fail
            exact ⟨⟨k + 1, _, by omega, by go_num, X1, X2, X3, X4, x5⟩, by simp [intOf]; omega⟩)
      · obtain rfl : k = f.nodes.length := by omega
        have hwb : Below w.heap.size w wr := hal.trans (hbw.mono hs0)
        have HRB := Lib.hid (HR.out.next hbw)
        obtain ⟨z0, z1, z2⟩ := HRB.out.three
        have y0 := HRB.out.free 0
        have y1 := HRB.out.free 1
        have y2 := HRB.out.free 2
        obtain ⟨B1, hE1⟩ := HE1.out
        obtain ⟨B2, hE2⟩ := HE2.out
        have HP1 := Lib.hid (fun x y z => row_put3 HNR.out HRB.out (by decide) x y z)
        have HP2 := Lib.hid (fun x y z => row_put3 hE1 HRB.out (by decide) x y z)
        have HP3 := Lib.hid (fun x y z => row_put3 hE2 HRB.out (by decide) x y z)
        obtain ⟨a6, c6, rfl, hq6, hu6⟩ := nrow_nds HNR.out
        obtain ⟨a7, c7, rfl, hq7, hu7⟩ := erow_read hE1
        obtain ⟨a8, c8, rfl, hq8, hu8⟩ := erow_read hE2
        have HPB := Lib.hid (fun x y z => show Bk (((wr.setCell ⟨RB, 0, none⟩ x).setCell ⟨RB, 1, none⟩ y).setCell ⟨RB, 2, none⟩ z) RB 25 #[x, y, z] by
          have := ((HRB.out.set 0 x).set 1 y).set 2 z
          simpa using this)
        have hRBw : w.heap.size ≤ RB := HRBW.out
        have HBB := Lib.hid (fun x y z => show Below w.heap.size w (((wr.setCell ⟨RB, 0, none⟩ x).setCell ⟨RB, 1, none⟩ y).setCell ⟨RB, 2, none⟩ z) from
          ((hwb.setCell (p := ⟨RB, 0, none⟩) hRBw _).setCell (p := ⟨RB, 1, none⟩) hRBw _).setCell (p := ⟨RB, 2, none⟩) hRBw _)
        have HSW2 := Lib.hid HSW.out
        have HK1 := HOKN
        have HK2 := HOKD
        have HK3 := HOKS
        clear hE1 hE2 hq6 hu6 hq7 hu7 hq8 hu8 HE1 HE2 HNR hwb HSW
        generalize keepN f.dir f.syn f.nodes f.nodes.length = KK at *
        generalize moved f.dir f.syn f.dir = DD at *
        generalize moved f.dir f.syn f.syn = SS at *
        obtain ⟨x0, x1, x2⟩ := (HPB.out (.slice a6 KK.length c6) (.slice a7 DD.length c7) (.slice a8 SS.length c8)).three
        go_wp2_with fail
        refine bodyPost_ret (v := .agg #[.slice a6 KK.length c6, .slice a7 DD.length c7, .slice a8 SS.length c8]) (by simp [results, Try.results30, go_sem, x0, x1, x2]) rfl ?_
        rw [HSW2.out]
        refine ⟨⟨a6, c6, a7, c7, a8, c8⟩, rfl, ?_, HBB.out _ _ _⟩
        obtain ⟨_, _, g1, g2, g3⟩ := nrow_nds (HP1.out (.slice a6 KK.length c6) (.slice a7 DD.length c7) (.slice a8 SS.length c8))
        obtain ⟨_, _, g4, g5, g6⟩ := erow_read (HP2.out (.slice a6 KK.length c6) (.slice a7 DD.length c7) (.slice a8 SS.length c8))
        obtain ⟨_, _, g7, g8, g9⟩ := erow_read (HP3.out (.slice a6 KK.length c6) (.slice a7 DD.length c7) (.slice a8 SS.length c8))
        cases g1; cases g4; cases g7
        exact ⟨g2, g6, g9, g3, g5, g8, HK1.out, HK2.out, HK3.out⟩
  · have hL := laid_put (B := W0.heap.size) hr12 hr2 (show Below W0.heap.size W0 w8 by assumption).size ((bk_new w8 25 #[.slice none 0 0, .slice none 0 0, .slice none 0 0]).next hb9)
    have hbF : Below W0.heap.size W0 (((w9.setCell ⟨w8.heap.size, 0, none⟩ (.slice none 0 0)).setCell ⟨w8.heap.size, 1, none⟩ (.slice a1 (moved f.dir f.syn f.dir).length k1)).setCell ⟨w8.heap.size, 2, none⟩ (.slice a2 (moved f.dir f.syn f.syn).length k2)) := (((show Below W0.heap.size W0 w9 by assumption).setCell (p := ⟨_, 0, none⟩) hL.ge _).setCell (p := ⟨_, 1, none⟩) hL.ge _).setCell (p := ⟨_, 2, none⟩) hL.ge _
    generalize (((w9.setCell ⟨w8.heap.size, 0, none⟩ (.slice none 0 0)).setCell ⟨w8.heap.size, 1, none⟩ (.slice a1 (moved f.dir f.syn f.dir).length k1)).setCell ⟨w8.heap.size, 2, none⟩ (.slice a2 (moved f.dir f.syn f.syn).length k2)) = WF at *
    obtain ⟨O, hOe⟩ : ∃ O, O = w8.heap.size := ⟨_, rfl⟩
    obtain ⟨hO, hbk, hd1, hd2⟩ := hL
    rw [← hOe] at hbk ⊢
    have hO : W0.heap.size ≤ O := by omega
    clear hOe
    have HBK := Lib.hid hbk
    have HD1 := Lib.hid hd1
    have HD2 := Lib.hid hd2
    have HBF := Lib.hid hbF
    clear hbk hd1 hd2 hbF
    obtain ⟨V1, hV1⟩ : ∃ V1, V1 = Value.slice a1 (moved f.dir f.syn f.dir).length k1 := ⟨_, rfl⟩
    obtain ⟨V2, hV2⟩ : ∃ V2, V2 = Value.slice a2 (moved f.dir f.syn f.syn).length k2 := ⟨_, rfl⟩
    rw [← hV1, ← hV2] at HBK ⊢
    rw [← hV1] at HD1
    rw [← hV2] at HD2
    clear hV1 hV2 hr1 hr2 hr12 hq1 hq2 hu1 hu2
    go_wp2_with fail
    go_loopw [4] (fun i wr => ∃ (k : Nat) (nv : Value), k ≤ f.nodes.length ∧ i = .int .i64 k ∧ Hid (NRow W0.heap.size (keepN f.dir f.syn f.nodes k) nv wr) ∧ Hid (Bk wr O 25 #[nv, V1, V2]) ∧ Hid (∃ B1, ERow B1 (moved f.dir f.syn f.dir) V1 wr) ∧ Hid (∃ B2, ERow B2 (moved f.dir f.syn f.syn) V2 wr) ∧ Below W0.heap.size W0 wr) (fun i _ => f.nodes.length - (intOf i).toNat)
    case atStart => exact ⟨0, _, by omega, rfl, Lib.hid (nnil _ _), HBK, HD1, HD2, HBF.out⟩
    case round =>
      obtain ⟨k, nv, hk, rfl, HNR, HB, HE1, HE2, hbw⟩ := hrel
      have t0 := d0 _ hbw
      have t1 := d1 _ hbw
      have t2 := d2 _ hbw
      have o0 := HB.out.three
      obtain ⟨o0, o1, o2⟩ := o0
      by_cases hlt : k < f.nodes.length
      · obtain ⟨bb, off, rfl, hbb, hcc⟩ := HF.out.nds (fun e => by rw [e] at hlt; simp at hlt)
        obtain ⟨q0, q1⟩ := hcc k hlt
        have c0 : ∀ W, Below W0.heap.size W0 W → W.cell? ⟨bb, off + k * 2, none⟩ = some (.string (str (f.nodes.getD k nulN).live)) := fun W hb => (hb.cell (p := ⟨bb, off + k * 2, none⟩) hbb).trans q0
        have c1 : ∀ W, Below W0.heap.size W0 W → W.cell? ⟨bb, off + k * 2 + 1, none⟩ = some (.string (str (f.nodes.getD k nulN).syn)) := fun W hb => (hb.cell (p := ⟨bb, off + k * 2 + 1, none⟩) hbb).trans q1
        have hkI : (k : Int) < (f.nodes.length : Int) := by omega
        have HCALL := Lib.hid (HNA.out (k : Int) wr hbw)
        have HYN := Lib.hid (show (named f.dir f.syn (k : Int) = true → keepN f.dir f.syn f.nodes (k + 1) = keepN f.dir f.syn f.nodes k ++ [f.nodes.getD k nulN]) ∧ (named f.dir f.syn (k : Int) = false → keepN f.dir f.syn f.nodes (k + 1) = keepN f.dir f.syn f.nodes k) from ⟨keepN_yes f.nodes, keepN_no f.nodes⟩)
        have HON := Lib.hid (fun W => nds_one W (f.nodes.getD k nulN))
        have hkl := keepN_len f.dir f.syn f.nodes k
        have hfl := fewer_le f.dir f.syn k
        have hkm : ((keepN f.dir f.syn f.nodes k).length + 1) * 32 ≤ 140737488355328 := by omega
        clear hkl hfl q0 q1 hcc
        generalize str (f.nodes.getD k nulN).live = X at *
        generalize str (f.nodes.getD k nulN).syn = Y at *
        generalize f.nodes.getD k nulN = nd at *
        generalize keepN f.dir f.syn f.nodes k = K at *
        generalize hbo : named f.dir f.syn (k : Int) = bo at *
        clear hbo
        cases bo with
        | false =>
          have HN := Lib.hid (show NRow W0.heap.size (keepN f.dir f.syn f.nodes (k + 1)) nv wr by rw [HYN.out.2 rfl]; exact HNR.out)
          clear HYN
          go_wp2_with fail
          refine (HCALL.out).mono ?_
          rintro e w5 ⟨rfl, rfl⟩
          go_wp2_with fail
          exact ⟨⟨k + 1, nv, by omega, by go_num, HN, HB, HE1, HE2, hbw⟩, by simp [intOf]; omega⟩
        | true =>
          have HY := Lib.hid (HYN.out.1 rfl)
          clear HYN
          go_wp2_with fail
          refine (HCALL.out).mono ?_
          rintro e w5 ⟨rfl, rfl⟩
          go_wp2_with fail
          have hbA : Below W0.heap.size W0 (w5.alloc (.cells #[.string X, .string Y] 49)) := hbw.alloc hbw.size _
          have hkl5 := hbw.size
          have HBA := Lib.hid (HB.out.next ((Below.refl w5.heap.size w5).alloc (Nat.le_refl _) (.cells #[.string X, .string Y] 49)))
          have HNA5 := Lib.hid (show NRow W0.heap.size K nv (w5.alloc (.cells #[.string X, .string Y] 49)) from World.ownsRow.alloc HNR.out _)
          have HK5 := Lib.hid (fun (v6 : Value) (w6 : World) (hr6 : NRow W0.heap.size (K ++ [nd]) v6 w6) (hg6 : (w5.alloc (.cells #[.string X, .string Y] 49)).drew.grownBy w6 nv.ownBlock) => show Bk w6 O 25 #[nv, V1, V2] from Bk.grown (w := (w5.alloc (.cells #[.string X, .string Y] 49)).drew) HBA.out hg6 (bk_kind HNA5.out HBA.out (by decide)))
          have hd10 : ∀ W, Below W0.heap.size W0 W → W.cell? ⟨w.heap.size, 0, none⟩ = some (.slice (some ⟨bb, off, none⟩) f.nodes.length cn) := d0
          have cc0 := c0 _ hbw
          have cc1 := c1 _ hbw
          have HNX := Lib.hid (fun (v6 : Value) (w6 : World) (h1 : NRow W0.heap.size (K ++ [nd]) v6 w6) (h2 : Below W0.heap.size (w5.alloc (.cells #[.string X, .string Y] 49)).drew w6) (h3 : (w5.alloc (.cells #[.string X, .string Y] 49)).drew.grownBy w6 nv.ownBlock) =>
            show NRow W0.heap.size (keepN f.dir f.syn f.nodes (k + 1)) v6 (w6.setCell ⟨O, 0, none⟩ v6) ∧ Bk (w6.setCell ⟨O, 0, none⟩ v6) O 25 #[v6, V1, V2] ∧ (∃ B1, ERow B1 (moved f.dir f.syn f.dir) V1 (w6.setCell ⟨O, 0, none⟩ v6)) ∧ (∃ B2, ERow B2 (moved f.dir f.syn f.syn) V2 (w6.setCell ⟨O, 0, none⟩ v6)) ∧ Below W0.heap.size W0 (w6.setCell ⟨O, 0, none⟩ v6) from by
              have b6 := HK5.out v6 w6 h1 h3
              rw [HY.out]
              refine ⟨row_move h1 (fun g hg => heap_set _ _ _ _ (fun e => bk_kind h1 b6 (by decide) (by rw [hg]; exact congrArg some e.symm))), by have := b6.set 0 v6; simpa using this, ?_, ?_, (hbA.drew.trans h2).setCell (p := ⟨O, 0, none⟩) hO _⟩
              · obtain ⟨B1, hB1⟩ := HE1.out
                have hA := World.ownsRow.alloc hB1 (.cells #[.string X, .string Y] 49)
                have h6 : ERow B1 _ V1 w6 := row_move hA (fun g hg => h3.block g (World.ownsRow.lt hA g hg).2 (fun e => row_kinds HNA5.out hA (by decide) e.symm hg.symm))
                exact ⟨B1, row_move h6 (fun g hg => heap_set _ _ _ _ (fun e => bk_kind h6 b6 (by decide) (by rw [hg]; exact congrArg some e.symm)))⟩
              · obtain ⟨B1, hB1⟩ := HE2.out
                have hA := World.ownsRow.alloc hB1 (.cells #[.string X, .string Y] 49)
                have h6 : ERow B1 _ V2 w6 := row_move hA (fun g hg => h3.block g (World.ownsRow.lt hA g hg).2 (fun e => row_kinds HNA5.out hA (by decide) e.symm hg.symm))
                exact ⟨B1, row_move h6 (fun g hg => heap_set _ _ _ _ (fun e => bk_kind h6 b6 (by decide) (by rw [hg]; exact congrArg some e.symm)))⟩)
          have oA := HBA.out.three.1
          go_region_law (first | (refine step_append_nd ?_ (.tmp 28) (.tmp 34) rfl W0.heap.size nv K rfl ?_ _ 1 1 [nd] rfl rfl (fun h => by cases h) (HON.out _) hkm ?_ ?_; rfl; (exact HNA5.out); (exact hbA.size); intro v6 w6 hr6 hb6 hg6; have hB6 := HK5.out v6 w6 hr6 hg6; have hf6 := hB6.free 0; have hc6 := hB6.three.1; obtain ⟨a6, c6, e6, hq6, hu6⟩ := nrow_nds hr6; obtain ⟨L6, hL6⟩ : ∃ L, L = (K ++ [nd]).length := ⟨_, rfl⟩; rw [← hL6] at e6; clear hL6; subst e6))
          all_goals (
            obtain ⟨x1, x2, x3, x4, x5⟩ := HNX.out _ _ hr6 hb6 hg6
            have X1 := Lib.hid x1
            have X2 := Lib.hid x2
            have X3 := Lib.hid x3
            have X4 := Lib.hid x4
            clear x1 x2 x3 x4 hB6 hf6 hc6 hg6 hr6
            go_wp2_with fail
            exact ⟨⟨k + 1, _, by omega, by go_num, X1, X2, X3, X4, x5⟩, by simp [intOf]; omega⟩)
      · obtain rfl : k = f.nodes.length := by omega
        have hwb : Below w.heap.size w wr := hal.trans (hbw.mono hs0)
        have HRB := Lib.hid (HR.out.next hbw)
        obtain ⟨z0, z1, z2⟩ := HRB.out.three
        have y0 := HRB.out.free 0
        have y1 := HRB.out.free 1
        have y2 := HRB.out.free 2
        obtain ⟨B1, hE1⟩ := HE1.out
        obtain ⟨B2, hE2⟩ := HE2.out
        have HP1 := Lib.hid (fun x y z => row_put3 HNR.out HRB.out (by decide) x y z)
        have HP2 := Lib.hid (fun x y z => row_put3 hE1 HRB.out (by decide) x y z)
        have HP3 := Lib.hid (fun x y z => row_put3 hE2 HRB.out (by decide) x y z)
        obtain ⟨a6, c6, rfl, hq6, hu6⟩ := nrow_nds HNR.out
        obtain ⟨a7, c7, rfl, hq7, hu7⟩ := erow_read hE1
        obtain ⟨a8, c8, rfl, hq8, hu8⟩ := erow_read hE2
        have HPB := Lib.hid (fun x y z => show Bk (((wr.setCell ⟨RB, 0, none⟩ x).setCell ⟨RB, 1, none⟩ y).setCell ⟨RB, 2, none⟩ z) RB 25 #[x, y, z] by
          have := ((HRB.out.set 0 x).set 1 y).set 2 z
          simpa using this)
        have hRBw : w.heap.size ≤ RB := HRBW.out
        have HBB := Lib.hid (fun x y z => show Below w.heap.size w (((wr.setCell ⟨RB, 0, none⟩ x).setCell ⟨RB, 1, none⟩ y).setCell ⟨RB, 2, none⟩ z) from
          ((hwb.setCell (p := ⟨RB, 0, none⟩) hRBw _).setCell (p := ⟨RB, 1, none⟩) hRBw _).setCell (p := ⟨RB, 2, none⟩) hRBw _)
        have HSW2 := Lib.hid HSW.out
        have HK1 := HOKN
        have HK2 := HOKD
        have HK3 := HOKS
        clear hE1 hE2 hq6 hu6 hq7 hu7 hq8 hu8 HE1 HE2 HNR hwb HSW
        generalize keepN f.dir f.syn f.nodes f.nodes.length = KK at *
        generalize moved f.dir f.syn f.dir = DD at *
        generalize moved f.dir f.syn f.syn = SS at *
        obtain ⟨x0, x1, x2⟩ := (HPB.out (.slice a6 KK.length c6) (.slice a7 DD.length c7) (.slice a8 SS.length c8)).three
        go_wp2_with fail
        refine bodyPost_ret (v := .agg #[.slice a6 KK.length c6, .slice a7 DD.length c7, .slice a8 SS.length c8]) (by simp [results, Try.results30, go_sem, x0, x1, x2]) rfl ?_
        rw [HSW2.out]
        refine ⟨⟨a6, c6, a7, c7, a8, c8⟩, rfl, ?_, HBB.out _ _ _⟩
        obtain ⟨_, _, g1, g2, g3⟩ := nrow_nds (HP1.out (.slice a6 KK.length c6) (.slice a7 DD.length c7) (.slice a8 SS.length c8))
        obtain ⟨_, _, g4, g5, g6⟩ := erow_read (HP2.out (.slice a6 KK.length c6) (.slice a7 DD.length c7) (.slice a8 SS.length c8))
        obtain ⟨_, _, g7, g8, g9⟩ := erow_read (HP3.out (.slice a6 KK.length c6) (.slice a7 DD.length c7) (.slice a8 SS.length c8))
        cases g1; cases g4; cases g7
        exact ⟨g2, g6, g9, g3, g5, g8, HK1.out, HK2.out, HK3.out⟩
  · have hL := laid_put (B := W0.heap.size) hr12 hr2 (Nat.le_refl _) (((bk_drew (bk_new W0 25 #[.slice none 0 0, .slice none 0 0, .slice none 0 0])).next hb8).next hb9)
    have hbF : Below W0.heap.size W0 (((w9.setCell ⟨W0.heap.size, 0, none⟩ (.slice none 0 0)).setCell ⟨W0.heap.size, 1, none⟩ (.slice a1 (moved f.dir f.syn f.dir).length k1)).setCell ⟨W0.heap.size, 2, none⟩ (.slice a2 (moved f.dir f.syn f.syn).length k2)) := (((show Below W0.heap.size W0 w9 by assumption).setCell (p := ⟨_, 0, none⟩) hL.ge _).setCell (p := ⟨_, 1, none⟩) hL.ge _).setCell (p := ⟨_, 2, none⟩) hL.ge _
    generalize (((w9.setCell ⟨W0.heap.size, 0, none⟩ (.slice none 0 0)).setCell ⟨W0.heap.size, 1, none⟩ (.slice a1 (moved f.dir f.syn f.dir).length k1)).setCell ⟨W0.heap.size, 2, none⟩ (.slice a2 (moved f.dir f.syn f.syn).length k2)) = WF at *
    obtain ⟨O, hOe⟩ : ∃ O, O = W0.heap.size := ⟨_, rfl⟩
    obtain ⟨hO, hbk, hd1, hd2⟩ := hL
    rw [← hOe] at hbk ⊢
    have hO : W0.heap.size ≤ O := by omega
    clear hOe
    have HBK := Lib.hid hbk
    have HD1 := Lib.hid hd1
    have HD2 := Lib.hid hd2
    have HBF := Lib.hid hbF
    clear hbk hd1 hd2 hbF
    obtain ⟨V1, hV1⟩ : ∃ V1, V1 = Value.slice a1 (moved f.dir f.syn f.dir).length k1 := ⟨_, rfl⟩
    obtain ⟨V2, hV2⟩ : ∃ V2, V2 = Value.slice a2 (moved f.dir f.syn f.syn).length k2 := ⟨_, rfl⟩
    rw [← hV1, ← hV2] at HBK ⊢
    rw [← hV1] at HD1
    rw [← hV2] at HD2
    clear hV1 hV2 hr1 hr2 hr12 hq1 hq2 hu1 hu2
    go_wp2_with fail
    go_loopw [4] (fun i wr => ∃ (k : Nat) (nv : Value), k ≤ f.nodes.length ∧ i = .int .i64 k ∧ Hid (NRow W0.heap.size (keepN f.dir f.syn f.nodes k) nv wr) ∧ Hid (Bk wr O 25 #[nv, V1, V2]) ∧ Hid (∃ B1, ERow B1 (moved f.dir f.syn f.dir) V1 wr) ∧ Hid (∃ B2, ERow B2 (moved f.dir f.syn f.syn) V2 wr) ∧ Below W0.heap.size W0 wr) (fun i _ => f.nodes.length - (intOf i).toNat)
    case atStart => exact ⟨0, _, by omega, rfl, Lib.hid (nnil _ _), HBK, HD1, HD2, HBF.out⟩
    case round =>
      obtain ⟨k, nv, hk, rfl, HNR, HB, HE1, HE2, hbw⟩ := hrel
      have t0 := d0 _ hbw
      have t1 := d1 _ hbw
      have t2 := d2 _ hbw
      have o0 := HB.out.three
      obtain ⟨o0, o1, o2⟩ := o0
      by_cases hlt : k < f.nodes.length
      · obtain ⟨bb, off, rfl, hbb, hcc⟩ := HF.out.nds (fun e => by rw [e] at hlt; simp at hlt)
        obtain ⟨q0, q1⟩ := hcc k hlt
        have c0 : ∀ W, Below W0.heap.size W0 W → W.cell? ⟨bb, off + k * 2, none⟩ = some (.string (str (f.nodes.getD k nulN).live)) := fun W hb => (hb.cell (p := ⟨bb, off + k * 2, none⟩) hbb).trans q0
        have c1 : ∀ W, Below W0.heap.size W0 W → W.cell? ⟨bb, off + k * 2 + 1, none⟩ = some (.string (str (f.nodes.getD k nulN).syn)) := fun W hb => (hb.cell (p := ⟨bb, off + k * 2 + 1, none⟩) hbb).trans q1
        have hkI : (k : Int) < (f.nodes.length : Int) := by omega
        have HCALL := Lib.hid (HNA.out (k : Int) wr hbw)
        have HYN := Lib.hid (show (named f.dir f.syn (k : Int) = true → keepN f.dir f.syn f.nodes (k + 1) = keepN f.dir f.syn f.nodes k ++ [f.nodes.getD k nulN]) ∧ (named f.dir f.syn (k : Int) = false → keepN f.dir f.syn f.nodes (k + 1) = keepN f.dir f.syn f.nodes k) from ⟨keepN_yes f.nodes, keepN_no f.nodes⟩)
        have HON := Lib.hid (fun W => nds_one W (f.nodes.getD k nulN))
        have hkl := keepN_len f.dir f.syn f.nodes k
        have hfl := fewer_le f.dir f.syn k
        have hkm : ((keepN f.dir f.syn f.nodes k).length + 1) * 32 ≤ 140737488355328 := by omega
        clear hkl hfl q0 q1 hcc
        generalize str (f.nodes.getD k nulN).live = X at *
        generalize str (f.nodes.getD k nulN).syn = Y at *
        generalize f.nodes.getD k nulN = nd at *
        generalize keepN f.dir f.syn f.nodes k = K at *
        generalize hbo : named f.dir f.syn (k : Int) = bo at *
        clear hbo
        cases bo with
        | false =>
          have HN := Lib.hid (show NRow W0.heap.size (keepN f.dir f.syn f.nodes (k + 1)) nv wr by rw [HYN.out.2 rfl]; exact HNR.out)
          clear HYN
          go_wp2_with fail
          refine (HCALL.out).mono ?_
          rintro e w5 ⟨rfl, rfl⟩
          go_wp2_with fail
          exact ⟨⟨k + 1, nv, by omega, by go_num, HN, HB, HE1, HE2, hbw⟩, by simp [intOf]; omega⟩
        | true =>
          have HY := Lib.hid (HYN.out.1 rfl)
          clear HYN
          go_wp2_with fail
          refine (HCALL.out).mono ?_
          rintro e w5 ⟨rfl, rfl⟩
          go_wp2_with fail
          have hbA : Below W0.heap.size W0 (w5.alloc (.cells #[.string X, .string Y] 49)) := hbw.alloc hbw.size _
          have hkl5 := hbw.size
          have HBA := Lib.hid (HB.out.next ((Below.refl w5.heap.size w5).alloc (Nat.le_refl _) (.cells #[.string X, .string Y] 49)))
          have HNA5 := Lib.hid (show NRow W0.heap.size K nv (w5.alloc (.cells #[.string X, .string Y] 49)) from World.ownsRow.alloc HNR.out _)
          have HK5 := Lib.hid (fun (v6 : Value) (w6 : World) (hr6 : NRow W0.heap.size (K ++ [nd]) v6 w6) (hg6 : (w5.alloc (.cells #[.string X, .string Y] 49)).drew.grownBy w6 nv.ownBlock) => show Bk w6 O 25 #[nv, V1, V2] from Bk.grown (w := (w5.alloc (.cells #[.string X, .string Y] 49)).drew) HBA.out hg6 (bk_kind HNA5.out HBA.out (by decide)))
          have hd10 : ∀ W, Below W0.heap.size W0 W → W.cell? ⟨w.heap.size, 0, none⟩ = some (.slice (some ⟨bb, off, none⟩) f.nodes.length cn) := d0
          have cc0 := c0 _ hbw
          have cc1 := c1 _ hbw
          have HNX := Lib.hid (fun (v6 : Value) (w6 : World) (h1 : NRow W0.heap.size (K ++ [nd]) v6 w6) (h2 : Below W0.heap.size (w5.alloc (.cells #[.string X, .string Y] 49)).drew w6) (h3 : (w5.alloc (.cells #[.string X, .string Y] 49)).drew.grownBy w6 nv.ownBlock) =>
            show NRow W0.heap.size (keepN f.dir f.syn f.nodes (k + 1)) v6 (w6.setCell ⟨O, 0, none⟩ v6) ∧ Bk (w6.setCell ⟨O, 0, none⟩ v6) O 25 #[v6, V1, V2] ∧ (∃ B1, ERow B1 (moved f.dir f.syn f.dir) V1 (w6.setCell ⟨O, 0, none⟩ v6)) ∧ (∃ B2, ERow B2 (moved f.dir f.syn f.syn) V2 (w6.setCell ⟨O, 0, none⟩ v6)) ∧ Below W0.heap.size W0 (w6.setCell ⟨O, 0, none⟩ v6) from by
              have b6 := HK5.out v6 w6 h1 h3
              rw [HY.out]
              refine ⟨row_move h1 (fun g hg => heap_set _ _ _ _ (fun e => bk_kind h1 b6 (by decide) (by rw [hg]; exact congrArg some e.symm))), by have := b6.set 0 v6; simpa using this, ?_, ?_, (hbA.drew.trans h2).setCell (p := ⟨O, 0, none⟩) hO _⟩
              · obtain ⟨B1, hB1⟩ := HE1.out
                have hA := World.ownsRow.alloc hB1 (.cells #[.string X, .string Y] 49)
                have h6 : ERow B1 _ V1 w6 := row_move hA (fun g hg => h3.block g (World.ownsRow.lt hA g hg).2 (fun e => row_kinds HNA5.out hA (by decide) e.symm hg.symm))
                exact ⟨B1, row_move h6 (fun g hg => heap_set _ _ _ _ (fun e => bk_kind h6 b6 (by decide) (by rw [hg]; exact congrArg some e.symm)))⟩
              · obtain ⟨B1, hB1⟩ := HE2.out
                have hA := World.ownsRow.alloc hB1 (.cells #[.string X, .string Y] 49)
                have h6 : ERow B1 _ V2 w6 := row_move hA (fun g hg => h3.block g (World.ownsRow.lt hA g hg).2 (fun e => row_kinds HNA5.out hA (by decide) e.symm hg.symm))
                exact ⟨B1, row_move h6 (fun g hg => heap_set _ _ _ _ (fun e => bk_kind h6 b6 (by decide) (by rw [hg]; exact congrArg some e.symm)))⟩)
          have oA := HBA.out.three.1
          go_region_law (first | (refine step_append_nd ?_ (.tmp 28) (.tmp 34) rfl W0.heap.size nv K rfl ?_ _ 1 1 [nd] rfl rfl (fun h => by cases h) (HON.out _) hkm ?_ ?_; rfl; (exact HNA5.out); (exact hbA.size); intro v6 w6 hr6 hb6 hg6; have hB6 := HK5.out v6 w6 hr6 hg6; have hf6 := hB6.free 0; have hc6 := hB6.three.1; obtain ⟨a6, c6, e6, hq6, hu6⟩ := nrow_nds hr6; obtain ⟨L6, hL6⟩ : ∃ L, L = (K ++ [nd]).length := ⟨_, rfl⟩; rw [← hL6] at e6; clear hL6; subst e6))
          all_goals (
            obtain ⟨x1, x2, x3, x4, x5⟩ := HNX.out _ _ hr6 hb6 hg6
            have X1 := Lib.hid x1
            have X2 := Lib.hid x2
            have X3 := Lib.hid x3
            have X4 := Lib.hid x4
            clear x1 x2 x3 x4 hB6 hf6 hc6 hg6 hr6
            go_wp2_with fail
            exact ⟨⟨k + 1, _, by omega, by go_num, X1, X2, X3, X4, x5⟩, by simp [intOf]; omega⟩)
      · obtain rfl : k = f.nodes.length := by omega
        have hwb : Below w.heap.size w wr := hal.trans (hbw.mono hs0)
        have HRB := Lib.hid (HR.out.next hbw)
        obtain ⟨z0, z1, z2⟩ := HRB.out.three
        have y0 := HRB.out.free 0
        have y1 := HRB.out.free 1
        have y2 := HRB.out.free 2
        obtain ⟨B1, hE1⟩ := HE1.out
        obtain ⟨B2, hE2⟩ := HE2.out
        have HP1 := Lib.hid (fun x y z => row_put3 HNR.out HRB.out (by decide) x y z)
        have HP2 := Lib.hid (fun x y z => row_put3 hE1 HRB.out (by decide) x y z)
        have HP3 := Lib.hid (fun x y z => row_put3 hE2 HRB.out (by decide) x y z)
        obtain ⟨a6, c6, rfl, hq6, hu6⟩ := nrow_nds HNR.out
        obtain ⟨a7, c7, rfl, hq7, hu7⟩ := erow_read hE1
        obtain ⟨a8, c8, rfl, hq8, hu8⟩ := erow_read hE2
        have HPB := Lib.hid (fun x y z => show Bk (((wr.setCell ⟨RB, 0, none⟩ x).setCell ⟨RB, 1, none⟩ y).setCell ⟨RB, 2, none⟩ z) RB 25 #[x, y, z] by
          have := ((HRB.out.set 0 x).set 1 y).set 2 z
          simpa using this)
        have hRBw : w.heap.size ≤ RB := HRBW.out
        have HBB := Lib.hid (fun x y z => show Below w.heap.size w (((wr.setCell ⟨RB, 0, none⟩ x).setCell ⟨RB, 1, none⟩ y).setCell ⟨RB, 2, none⟩ z) from
          ((hwb.setCell (p := ⟨RB, 0, none⟩) hRBw _).setCell (p := ⟨RB, 1, none⟩) hRBw _).setCell (p := ⟨RB, 2, none⟩) hRBw _)
        have HSW2 := Lib.hid HSW.out
        have HK1 := HOKN
        have HK2 := HOKD
        have HK3 := HOKS
        clear hE1 hE2 hq6 hu6 hq7 hu7 hq8 hu8 HE1 HE2 HNR hwb HSW
        generalize keepN f.dir f.syn f.nodes f.nodes.length = KK at *
        generalize moved f.dir f.syn f.dir = DD at *
        generalize moved f.dir f.syn f.syn = SS at *
        obtain ⟨x0, x1, x2⟩ := (HPB.out (.slice a6 KK.length c6) (.slice a7 DD.length c7) (.slice a8 SS.length c8)).three
        go_wp2_with fail
        refine bodyPost_ret (v := .agg #[.slice a6 KK.length c6, .slice a7 DD.length c7, .slice a8 SS.length c8]) (by simp [results, Try.results30, go_sem, x0, x1, x2]) rfl ?_
        rw [HSW2.out]
        refine ⟨⟨a6, c6, a7, c7, a8, c8⟩, rfl, ?_, HBB.out _ _ _⟩
        obtain ⟨_, _, g1, g2, g3⟩ := nrow_nds (HP1.out (.slice a6 KK.length c6) (.slice a7 DD.length c7) (.slice a8 SS.length c8))
        obtain ⟨_, _, g4, g5, g6⟩ := erow_read (HP2.out (.slice a6 KK.length c6) (.slice a7 DD.length c7) (.slice a8 SS.length c8))
        obtain ⟨_, _, g7, g8, g9⟩ := erow_read (HP3.out (.slice a6 KK.length c6) (.slice a7 DD.length c7) (.slice a8 SS.length c8))
        cases g1; cases g4; cases g7
        exact ⟨g2, g6, g9, g3, g5, g8, HK1.out, HK2.out, HK3.out⟩
end Go.Proofs.Ytmjcdjekakaigaa.Fs
