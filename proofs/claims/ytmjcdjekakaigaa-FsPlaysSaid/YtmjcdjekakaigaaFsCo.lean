/- fs.copied. -/
import Derived.Test.YtmjcdjekakaigaaFsRd
import Derived.Deep.RegionHeld3
namespace Go.Proofs.Ytmjcdjekakaigaa.Fs
open Go.RowKit
set_option linter.unusedVariables false

def ChgPost (f : T) (w : World) (e : Ending) (w' : World) : Prop :=
  ∃ G nv dv sv, e = .returned (.pointer (some ⟨G, 0, none⟩)) ∧ Chg w' w.heap.size G f nv dv sv ∧ Below w.heap.size w w'
theorem row_weak {B B' : Nat} {e : TypeId} {sz : Nat} {v : Value} {n : Nat} {xs : List Value} {w : World} (h : w.ownsRow B e sz v n xs) (hB : B' ≤ B) : w.ownsRow B' e sz v n xs := by
  refine ⟨h.1, ?_⟩
  rcases h.2 with h2 | ⟨g', cap, cur, e1, e2, e3⟩
  · exact Or.inl h2
  · exact Or.inr ⟨g', cap, cur, e1, by omega, e3⟩
theorem ERow.weak {B B' : Nat} {xs : List En} {v : Value} {w : World} (h : ERow B xs v w) (hB : B' ≤ B) : ERow B' xs v w := row_weak h hB
theorem NRow.weak {B B' : Nat} {xs : List Nd} {v : Value} {w : World} (h : NRow B xs v w) (hB : B' ≤ B) : NRow B' xs v w := row_weak h hB
theorem ERow.lt {B : Nat} {xs : List En} {v : Value} {w : World} (h : ERow B xs v w) (g : Nat) (hg : v.ownBlock = some g) : B ≤ g ∧ g < w.heap.size := World.ownsRow.lt h g hg
theorem NRow.lt {B : Nat} {xs : List Nd} {v : Value} {w : World} (h : NRow B xs v w) (g : Nat) (hg : v.ownBlock = some g) : B ≤ g ∧ g < w.heap.size := World.ownsRow.lt h g hg
/-- three rows, one behind the other, and the block that holds them -/
theorem chg_made {w : World} {B B1 B2 B3 : Nat} {f : T} {nv dv sv : Value} (h1 : NRow B1 f.nodes nv w) (h2 : ERow B2 f.dir dv w) (h3 : ERow B3 f.syn sv w)
    (b1 : B ≤ B1) (b2 : B ≤ B2) (b3 : B ≤ B3) (l2 : ∀ g, dv.ownBlock = some g → g < B3)
    (hk : (∀ x ∈ f.nodes, ndOk x) ∧ (∀ x ∈ f.dir, enOk x) ∧ (∀ x ∈ f.syn, enOk x)) (hB : B ≤ w.heap.size) :
    Chg (w.alloc (.cells #[nv, dv, sv] 57)) B w.heap.size f nv dv sv where
  nro := World.ownsRow.alloc (h1.weak b1) _
  dro := World.ownsRow.alloc (h2.weak b2) _
  sro := World.ownsRow.alloc (h3.weak b3) _
  far := fun g hg hg' => by
    have p := l2 g hg
    have q := (h3.lt g hg').1
    omega
  nok := hk.1
  dok := hk.2.1
  sok := hk.2.2
  bk := bk_new _ _ _
  ge := hB
set_option maxHeartbeats 2000000 in
set_option maxRecDepth 100000 in
theorem copied_any (p : At) (f : T) (w : World) (h : Fss w w.heap.size p f) (hn : f.nodes.length ≤ 1048576) (hd : f.dir.length ≤ 1048576) (hs : f.syn.length ≤ 1048576) :
    Calls Try.prog 22 #[fsV p f] w (ChgPost f w) := by
  have hal : Below w.heap.size w (w.alloc (.cells #[.slice p.an f.nodes.length p.cn, .slice p.ad f.dir.length p.cd, .slice p.ay f.syn.length p.cy] 25)) := (Below.refl _ _).alloc (Nat.le_refl _) _
  have hT : Bk (w.alloc (.cells #[.slice p.an f.nodes.length p.cn, .slice p.ad f.dir.length p.cd, .slice p.ay f.syn.length p.cy] 25)) w.heap.size 25 #[.slice p.an f.nodes.length p.cn, .slice p.ad f.dir.length p.cd, .slice p.ay f.syn.length p.cy] := bk_new _ _ _
  have HF := Lib.hid (h.next hal)
  have HT := Lib.hid hT
  have HOK := Lib.hid (show (∀ x ∈ f.nodes, ndOk x) ∧ (∀ x ∈ f.dir, enOk x) ∧ (∀ x ∈ f.syn, enOk x) from ⟨h.nok, h.dok, h.sok⟩)
  have hs0 := hal.size
  obtain ⟨an, cn, ad, cd, ay, cy⟩ := p
  unfold fsV at *
  simp only at *
  clear h hT
  go_enter Try.func22, Try.ntmps22
  go_wp2_with fail
  obtain ⟨W0, hW0⟩ : ∃ W0, W0 = w.alloc (.cells #[.slice an f.nodes.length cn, .slice ad f.dir.length cd, .slice ay f.syn.length cy] 25) := ⟨_, rfl⟩
  rw [← hW0] at HF HT hal hs0 ⊢
  clear hW0
  have c0 : ∀ W, Below W0.heap.size W0 W → W.cell? ⟨w.heap.size, 0, none⟩ = some (.slice an f.nodes.length cn) := fun W hb => (HT.out.next hb).three.1
  have c1 : ∀ W, Below W0.heap.size W0 W → W.cell? ⟨w.heap.size, 1, none⟩ = some (.slice ad f.dir.length cd) := fun W hb => (HT.out.next hb).three.2.1
  have c2 : ∀ W, Below W0.heap.size W0 W → W.cell? ⟨w.heap.size, 2, none⟩ = some (.slice ay f.syn.length cy) := fun W hb => (HT.out.next hb).three.2.2
  have HN := Lib.hid (fun W (hb : Below W0.heap.size W0 W) => cloneN_any an cn f.nodes W hn HF.out.ncap (HF.out.nds.next ndAt_firm hb))
  have HD := Lib.hid (fun W (hb : Below W0.heap.size W0 W) => cloneE_any ad cd f.dir W hd HF.out.dcap (HF.out.dir.next enAt_firm hb))
  have HS := Lib.hid (fun W (hb : Below W0.heap.size W0 W) => cloneE_any ay cy f.syn W hs HF.out.scap (HF.out.syn.next enAt_firm hb))
  have hself : Below W0.heap.size W0 W0 := Below.refl _ _
  generalize f.nodes.length = ln at *
  generalize f.dir.length = ld at *
  generalize f.syn.length = ls at *
  go_region_held3 (fun W => Below W0.heap.size W0 W)
    (first
      | assumption
      | exact (show Below W0.heap.size W0 _ by assumption).drew
      | exact (show Below W0.heap.size W0 _ by assumption).alloc (show Below W0.heap.size W0 _ by assumption).size _
      | exact below_then (by assumption) hb9
      | exact Below.trans (by assumption) hb9)
    (first
      | (go_at_call 42; refine (HN.out _ (by assumption)).mono ?_; rintro e w9 ⟨v1, rfl, hr1, hb9⟩; obtain ⟨a1, k1, rfl, hu1, hq1⟩ := nrow_nds hr1; have hs1 := (show Below W0.heap.size W0 _ by assumption).size)
      | (go_at_call 24; (with_reducible refine (HD.out _ (by assumption)).mono ?_); rintro e w9 ⟨v2, rfl, hr2, hb9⟩; obtain ⟨a2, k2, rfl, hu2, hq2⟩ := erow_ens hr2; have hr12 := NRow.below (by exact hr1) hb9; have hl2 := fun g hg => (hr2.lt g hg).2; have hs2 := (show Below W0.heap.size W0 _ by assumption).size)
      | (go_at_call 24; (with_reducible refine (HS.out _ (by assumption)).mono ?_); rintro e w9 ⟨v3, rfl, hr3, hb9⟩; obtain ⟨a3, k3, rfl, hu3, hq3⟩ := erow_ens hr3; have hr13 := NRow.below (by exact hr12) hb9; have hr23 := ERow.below (by exact hr2) hb9; have hs3 := (show Below W0.heap.size W0 _ by assumption).size))
  have hfin : Below W0.heap.size W0 (w9.alloc (.cells #[.slice a1 f.nodes.length k1, .slice a2 f.dir.length k2, .slice a3 f.syn.length k3] 57)) := by assumption
  have HCH := Lib.hid (chg_made (B := w.heap.size) hr13 hr23 hr3 (Nat.le_trans hs0 hs1) (Nat.le_trans hs0 hs2) (Nat.le_trans hs0 hs3) hl2 HOK.out (by have := hb9.size; omega))
  clear hl2 hr13 hr23 hr3 hr12 hr2 hr1
  go_wp2_with fail
  go_ret
  exact ⟨_, _, _, _, rfl, HCH.out, hal.trans (hfin.mono hs0)⟩

/-- what a method leaves: another state in the same block -/
def MetPost (B G : Nat) (f : T) (w : World) (e : Ending) (w' : World) : Prop :=
  e = .returned (.tuple #[]) ∧ Below B w w' ∧ ∃ nv dv sv, Chg w' B G f nv dv sv
theorem Own.same {w w' : World} {B : Nat} {f : T} {nv dv sv : Value} (h : Own w B f nv dv sv) (hs : ∀ g, (nv.ownBlock = some g ∨ dv.ownBlock = some g ∨ sv.ownBlock = some g) → w'.heap[g]? = w.heap[g]?) : Own w' B f nv dv sv :=
  ⟨row_move h.nro (fun g hg => hs g (Or.inl hg)), row_move h.dro (fun g hg => hs g (Or.inr (Or.inl hg))), row_move h.sro (fun g hg => hs g (Or.inr (Or.inr hg))), h.far, h.nok, h.dok, h.sok⟩
section
variable {w w' : World} {B G : Nat} {f : T} {nv dv sv : Value}
theorem Chg.move (h : Chg w B G f nv dv sv) (hb : Below w.heap.size w w') : Chg w' B G f nv dv sv := { toOwn := h.toOwn.move hb, bk := h.bk.next hb, ge := h.ge }
theorem Chg.gN (h : Chg w B G f nv dv sv) : some G ≠ nv.ownBlock := bk_kind h.nro h.bk (by decide)
theorem Chg.gD (h : Chg w B G f nv dv sv) : some G ≠ dv.ownBlock := bk_kind h.dro h.bk (by decide)
theorem Chg.gS (h : Chg w B G f nv dv sv) : some G ≠ sv.ownBlock := bk_kind h.sro h.bk (by decide)
theorem Chg.base (h : Chg w B G f nv dv sv) : B ≤ w.heap.size := Nat.le_trans h.ge (Nat.le_of_lt h.bk.lt)
/-- the block gets another one of its three values: in a world that has the rows already -/
theorem Chg.turn {f' : T} {nv' dv' sv' : Value} {i : Nat} {x : Value} (h : Chg w B G f nv dv sv) (hb : Bk w' G 57 #[nv, dv, sv]) (ho : Own w' B f' nv' dv' sv') (he : (#[nv, dv, sv] : Array Value).setIfInBounds i x = #[nv', dv', sv']) :
    Chg (w'.setCell ⟨G, i, none⟩ x) B G f' nv' dv' sv' := by
  have hk : ∀ {e sz v n} {xs : List Value}, w'.ownsRow B e sz v n xs → e ≠ 57 → ∀ g, v.ownBlock = some g → (w'.setCell ⟨G, i, none⟩ x).heap[g]? = w'.heap[g]? := fun {e sz v n xs} hr hne g hg => heap_set _ _ _ _ (fun e2 => bk_kind hr hb hne (by rw [hg, e2]))
  refine { toOwn := ho.same (fun g hg => ?_), bk := ?_, ge := h.ge }
  · rcases hg with hg | hg | hg
    · exact hk ho.nro (by decide) g hg
    · exact hk ho.dro (by decide) g hg
    · exact hk ho.sro (by decide) g hg
  · rw [← he]; exact hb.set i x
end
set_option maxHeartbeats 2000000 in
set_option maxRecDepth 100000 in
theorem syncDir_any (B G : Nat) (f : T) (nv dv sv : Value) (w : World) (h : Chg w B G f nv dv sv) (hd : f.dir.length ≤ 1048576) :
    Calls Try.prog 23 #[.pointer (some ⟨G, 0, none⟩)] w (MetPost B G ⟨f.nodes, f.dir, f.dir⟩ w) := by
  obtain ⟨p, e1, e2, e3, hf⟩ := h.toOwn.fss
  subst e1; subst e2; subst e3
  obtain ⟨c0, c1, c2⟩ := h.bk.three
  have f2 := h.bk.free 2
  have HC := Lib.hid (cloneE_any p.ad p.cd f.dir w hd hf.dcap hf.dir)
  have HH := Lib.hid h
  clear h hf
  go_enter Try.func23, Try.ntmps23
  go_wp2_with fail
  refine (HC.out).mono ?_
  rintro e w1 ⟨v1, rfl, hr1, hb1⟩
  have h1 := HH.out.move hb1
  obtain ⟨d0, d1, d2⟩ := h1.bk.three
  have g2 := h1.bk.free 2
  have HR := Lib.hid (show Chg (w1.setCell ⟨G, 2, none⟩ v1) B G ⟨f.nodes, f.dir, f.dir⟩ _ _ v1 from h1.turn h1.bk ⟨h1.nro, h1.dro, hr1.weak HH.out.base, fun g hg hg' => by
    have p1 := (HH.out.dro.lt g hg).2
    have p2 := (hr1.lt g hg').1
    omega, h1.nok, h1.dok, h1.dok⟩ rfl)
  have hbB : Below B w (w1.setCell ⟨G, 2, none⟩ v1) := (hb1.mono HH.out.base).setCell (p := ⟨G, 2, none⟩) HH.out.ge v1
  obtain ⟨a1, k1, rfl, -, -⟩ := erow_ens hr1
  clear h1 hr1
  go_wp2_with fail
  go_end0
  exact ⟨rfl, hbB, _, _, _, HR.out⟩
end Go.Proofs.Ytmjcdjekakaigaa.Fs
