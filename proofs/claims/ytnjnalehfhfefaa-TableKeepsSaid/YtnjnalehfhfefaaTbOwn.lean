/- A table of one's own: how it is carried, read, and grows. -/
import Derived.Test.YtnjnalehfhfefaaTbApp
import Derived.Lib.OwnKind
import Derived.OneCell
namespace Go.Proofs.Ytnjnalehfhfefaa
open Go.RowKit
set_option linter.unusedVariables false

theorem row_move {w w' : World} {B : Nat} {e : TypeId} {sz : Nat} {v : Value} {n : Nat} {xs : List Value} (h : w.ownsRow B e sz v n xs) (hs : ∀ g, v.ownBlock = some g → w'.heap[g]? = w.heap[g]?) : w'.ownsRow B e sz v n xs := by
  refine ⟨h.1, ?_⟩
  rcases h.2 with hn | ⟨g, cap, cur, e1, e2, e3, e4⟩
  · exact Or.inl hn
  · exact Or.inr ⟨g, cap, cur, e1, e2, (hs g (by rw [e1]; rfl)).trans e3, e4⟩
/-- rows of unlike kinds share no block -/
theorem row_kinds {w : World} {B B' : Nat} {e e' : TypeId} {sz sz' : Nat} {v v' : Value} {n n' : Nat} {xs xs' : List Value} (h : w.ownsRow B e sz v n xs) (h' : w.ownsRow B' e' sz' v' n' xs') (hne : e ≠ e') {g : Nat} (hg : v.ownBlock = some g) : some g ≠ v'.ownBlock := by
  intro hg'
  obtain ⟨c, fz, k1⟩ := Lib.ownsRow_kind h g hg
  obtain ⟨c', fz', k2⟩ := Lib.ownsRow_kind h' g hg'.symm
  rw [k1] at k2
  injection k2 with k2
  injection k2 with k3 k4
  exact hne k4
theorem two_kind {w : World} {B G : Nat} {e t : TypeId} {sz : Nat} {v v0 v1 : Value} {n : Nat} {xs : List Value} (h : w.ownsRow B e sz v n xs) (h' : Two w G t v0 v1) (hne : e ≠ t) : some G ≠ v.ownBlock := by
  intro hg
  obtain ⟨c, fz, k1⟩ := Lib.ownsRow_kind h G hg.symm
  unfold Two at h'
  rw [k1] at h'
  injection h' with k2
  injection k2 with k3 k4
  exact hne k4
theorem heap_set (w : World) (a : Addr) (u : Value) (k : Nat) (h : k ≠ a.block) : (w.setCell a u).heap[k]? = w.heap[k]? := Below.heap_setCell w a u k h

section
variable {w : World} {B G : Nat} {t : Tb.T} {cv dv : Value} {vs : List Value}
theorem Own.gG (h : Own w B G t cv dv vs) : some G ≠ cv.ownBlock := two_kind h.gro h.two (by decide)
theorem Own.gD (h : Own w B G t cv dv vs) : some G ≠ dv.ownBlock := two_kind h.vro h.two (by decide)
theorem Own.lt (h : Own w B G t cv dv vs) : G < w.heap.size := h.two.lt
theorem Own.base (h : Own w B G t cv dv vs) : B ≤ w.heap.size := Nat.le_trans h.ge (Nat.le_of_lt h.lt)
theorem Own.move {w' : World} (h : Own w B G t cv dv vs) (hb : Below w.heap.size w w') : Own w' B G t cv dv vs where
  two := h.two.next hb
  ge := h.ge
  gro := h.gro.below hb
  vro := h.vro.below hb
  len := h.len
  row := fun i hi => by
    obtain ⟨v, h1, h2⟩ := h.row i hi
    exact ⟨v, h1, h2.below hb⟩
  far := h.far
  okG := h.okG
  okC := h.okC
theorem Own.reads (h : Own w B G t cv dv vs) : Reads w vs t.data := ⟨h.len, fun i hi => by
  obtain ⟨v, h1, h2⟩ := h.row i hi
  obtain ⟨a, c, rfl, h3, h4⟩ := cRow_cls h2
  have hm : t.data.getD i [] ∈ t.data := by
    simp only [List.getD, List.getElem?_eq_getElem hi, Option.getD_some]
    exact List.getElem_mem hi
  exact ⟨a, c, h1, ⟨h4.1, h4.2.1, h4.2.2, h.okC _ hm, h3⟩⟩⟩
theorem Own.tbl (h : Own w B G t cv dv vs) : ∃ ca cc da dc, cv = .slice ca t.cols.length cc ∧ dv = .slice da t.data.length dc ∧ Tbl w w.heap.size ca cc da dc t := by
  obtain ⟨ca, cc, rfl, h1, h2⟩ := grow_gls h.gro
  obtain ⟨da, dc, rfl, h3, h4⟩ := vrow_dat h.vro h.reads
  exact ⟨ca, cc, da, dc, rfl, rfl, h1, h3, h.okG, h2, h4⟩
end

/-- a row more -/
theorem Own.push {wr w9 w4 : World} {B G : Nat} {cols : List Tb.Col} {l : List (List C.Cl)} {cv dv v' u : Value} {vs : List Value} {row : List C.Cl} {o : Obj} (h : Own wr B G ⟨cols, l⟩ cv dv vs) (hb : Below wr.heap.size wr w9) (hu : CRow wr.heap.size row u w9)
    (hok : ∀ x ∈ row, cOk x) (h4 : VRow B (vs ++ [u]) v' w4) (hfar : ∀ k, k < (w9.alloc o).heap.size → some k ≠ dv.ownBlock → w4.heap[k]? = (w9.alloc o).heap[k]?) : Own (w4.setCell ⟨G, 1, none⟩ v') B G ⟨cols, l ++ [row]⟩ cv v' (vs ++ [u]) := by
  have h9 := h.move hb
  have hal : Below w9.heap.size w9 (w9.alloc o) := (Below.refl _ _).alloc (Nat.le_refl _) _
  have hA := h9.move hal
  have hu9 : CRow wr.heap.size row u (w9.alloc o) := hu.below hal
  have same : ∀ g, g < (w9.alloc o).heap.size → some g ≠ dv.ownBlock → g ≠ G → (w4.setCell ⟨G, 1, none⟩ v').heap[g]? = (w9.alloc o).heap[g]? := fun g h1 h2 h3 => by
    rw [heap_set _ _ _ _ h3]; exact hfar g h1 h2
  have hrow : ∀ {r v}, CRow B r v (w9.alloc o) → CRow B r v (w4.setCell ⟨G, 1, none⟩ v') := fun {r v} hr => row_move hr (fun g hg => same g (hr.lt g hg).2 (row_kinds hr hA.vro (by decide) hg) (fun e => two_kind hr hA.two (by decide) (by rw [hg, e])))
  have hlw : wr.heap.size ≤ (w9.alloc o).heap.size := Nat.le_trans hb.size hal.size
  have tw4 : Two w4 G 25 cv dv := (hfar G hA.lt hA.gD).trans hA.two
  refine ⟨tw4.s1 v', h.ge, ?_, ?_, ?_, ?_, ?_, h.okG, ?_⟩
  · exact row_move hA.gro (fun g hg => same g (hA.gro.lt g hg).2 (row_kinds hA.gro hA.vro (by decide) hg) (fun e => hA.gG (by rw [hg, e])))
  · exact row_move h4 (fun g hg => heap_set _ _ _ _ (fun e => two_kind h4 tw4 (by decide) (by rw [hg, e])))
  · simp [h.len]
  · intro i hi
    by_cases hlt : i < l.length
    · obtain ⟨v, h1, h2⟩ := hA.row i hlt
      have e : (l ++ [row]).getD i [] = l.getD i [] := by simp [List.getD, List.getElem?_append_left hlt]
      exact ⟨v, by rw [List.getElem?_append_left (by rw [h.len]; exact hlt)]; exact h1, by show CRow B ((l ++ [row]).getD i []) v _; rw [e]; exact hrow h2⟩
    · have hi' : i = l.length := by simp at hi; omega
      subst hi'
      have e : (l ++ [row]).getD l.length [] = row := by simp [List.getD]
      refine ⟨u, by have := h.len; simp only at this; rw [← this]; simp, ?_⟩
      show CRow B ((l ++ [row]).getD l.length []) u _
      rw [e]
      exact hrow (hu9.weak h.base)
  · intro i j v x hij hv hx
    by_cases hj : j < vs.length
    · rw [List.getElem?_append_left hj] at hx
      rw [List.getElem?_append_left (by omega)] at hv
      exact h.far i j v x hij hv hx
    · by_cases hj2 : j = vs.length
      · subst hj2
        have hx' : x = u := by simp at hx; exact hx.symm
        subst hx'
        rw [List.getElem?_append_left hij] at hv
        have hl := h.len
        simp only at hl
        obtain ⟨v2, h1, h2⟩ := h.row i (by simp only; omega)
        have : v = v2 := by rw [hv] at h1; exact Option.some.inj h1
        subst this
        cases hvb : v.ownBlock with
        | none => exact Or.inl rfl
        | some g =>
          right
          intro hg
          have k1 := (h2.lt g hvb).2
          have k2 := (hu.lt g hg.symm).1
          omega
      · rw [List.getElem?_eq_none (by simp; omega)] at hx; cases hx
  · intro r hr
    rcases List.mem_append.1 hr with hr | hr
    · exact h.okC r hr
    · rw [List.mem_singleton.1 hr]; exact hok
/-- the beginning: columns, no row -/
theorem Own.start {w : World} {B : Nat} {cols : List Tb.Col} {cv : Value} (hg : GRow B cols cv w) (hB : B ≤ w.heap.size) (hok : ∀ c ∈ cols, gOk c) : Own (w.alloc (.cells #[cv, .slice none 0 0] 25)) B w.heap.size ⟨cols, []⟩ cv (.slice none 0 0) [] where
  two := two_new _ _ _ _
  ge := hB
  gro := World.ownsRow.alloc hg _
  vro := vnilRow _ _
  len := rfl
  row := fun i hi => absurd hi (by simp)
  far := fun i j v u _ hv _ => by simp at hv
  okG := hok
  okC := fun l hl => by simp at hl
theorem Own.out {w : World} {B G : Nat} {t : Tb.T} {cv dv : Value} {vs : List Value} (h : Own w B G t cv dv vs) : Out w B G t cv dv vs where
  two := h.two
  gro := h.gro
  vro := h.vro
  len := h.len
  okG := h.okG
  row := fun i hi => by
    obtain ⟨v, h1, h2⟩ := h.row i hi
    obtain ⟨a, c, rfl, h3, h4⟩ := cRow_cls h2
    have hm : t.data.getD i [] ∈ t.data := by
      simp only [List.getD, List.getElem?_eq_getElem hi, Option.getD_some]
      exact List.getElem_mem hi
    exact ⟨a, c, h1, ⟨h4.1, h4.2.1, h4.2.2, h.okC _ hm, h3⟩, fun b o s e => ⟨(h2.lt b (by rw [e]; rfl)).1, Lib.ownsRow_kind h2 b (by rw [e]; rfl)⟩⟩
theorem Out.gG {w : World} {B G : Nat} {t : Tb.T} {cv dv : Value} {vs : List Value} (h : Out w B G t cv dv vs) : some G ≠ cv.ownBlock := two_kind h.gro h.two (by decide)
theorem Out.gD {w : World} {B G : Nat} {t : Tb.T} {cv dv : Value} {vs : List Value} (h : Out w B G t cv dv vs) : some G ≠ dv.ownBlock := two_kind h.vro h.two (by decide)
theorem RowIn.same {w w' : World} {a : Option Addr} {c : Nat} {r : List C.Cl} (h : RowIn w w.heap.size a c r) (hs : ∀ b o s, a = some ⟨b, o, s⟩ → w'.heap[b]? = w.heap[b]?) (hsz : w.heap.size ≤ w'.heap.size) : RowIn w' w'.heap.size a c r := by
  refine ⟨h.len, h.cap, h.nil, h.ok, ?_⟩
  intro hne
  obtain ⟨b, off, rfl, hb, hc⟩ := h.cls hne
  have hk := hs b off none rfl
  refine ⟨b, off, rfl, by omega, fun j hj => ?_⟩
  obtain ⟨c0, c1, c2⟩ := hc j hj
  exact ⟨(World.cell?_of_block (a := ⟨b, off + j * 3, none⟩) hk).trans c0, (World.cell?_of_block (a := ⟨b, off + j * 3 + 1, none⟩) hk).trans c1, (World.cell?_of_block (a := ⟨b, off + j * 3 + 2, none⟩) hk).trans c2⟩
theorem KindC.lt {w : World} {b : Nat} (h : KindC w b) : b < w.heap.size := by
  obtain ⟨c, fz, h⟩ := h
  exact lt_of_block h
theorem Out.move {w w' : World} {B G : Nat} {t : Tb.T} {cv dv : Value} {vs : List Value} (h : Out w B G t cv dv vs) (hb : Below w.heap.size w w') : Out w' B G t cv dv vs where
  two := h.two.next hb
  gro := h.gro.below hb
  vro := h.vro.below hb
  len := h.len
  okG := h.okG
  row := fun i hi => by
    obtain ⟨ai, ci, h1, h2, h3⟩ := h.row i hi
    refine ⟨ai, ci, h1, h2.next hb, fun b o s e => ⟨(h3 b o s e).1, ?_⟩⟩
    obtain ⟨c, fz, k⟩ := (h3 b o s e).2
    exact ⟨c, fz, (hb.block b (lt_of_block k)).trans k⟩
/-- a row's slice stored in the slice of rows -/
theorem Out.set {w : World} {B G g n c : Nat} {t : Tb.T} {cv : Value} {vs : List Value} {i : Nat} {a : Option Addr} {ci : Nat} {row : List C.Cl} (h : Out w B G t cv (.slice (some ⟨g, 0, none⟩) n c) vs) (hi : i < t.data.length)
    (hr : RowIn w w.heap.size a ci row) (hk : ∀ b o s, a = some ⟨b, o, s⟩ → B ≤ b ∧ KindC w b) :
    Out (w.setCell ⟨g, i, none⟩ (.slice a row.length ci)) B G ⟨t.cols, t.data.set i row⟩ cv (.slice (some ⟨g, 0, none⟩) n c) (vs.set i (.slice a row.length ci)) := by
  have hn : n = vs.length := by
    rcases h.vro.2 with ⟨e, _⟩ | ⟨g', cap, cur, e, _⟩
    · cases e
    · injection e with _ e2 _
  subst hn
  have same : ∀ k, k ≠ g → (w.setCell ⟨g, i, none⟩ (.slice a row.length ci)).heap[k]? = w.heap[k]? := fun k hk => heap_set _ _ _ _ hk
  have hkg : ∀ {b}, KindC w b → b ≠ g := fun {b} hb e => by
    obtain ⟨c1, f1, k1⟩ := hb
    obtain ⟨c2, f2, k2⟩ := Lib.ownsRow_kind h.vro g rfl
    rw [e, k2] at k1
    injection k1 with k1
    injection k1 with _ k3 _
    exact absurd k3 (by decide)
  have kk : ∀ {b}, KindC w b → KindC (w.setCell ⟨g, i, none⟩ (.slice a row.length ci)) b := fun {b} hb => by
    have hne := hkg hb
    obtain ⟨c1, f1, k1⟩ := hb
    exact ⟨c1, f1, (same b hne).trans k1⟩
  have hsz : w.heap.size ≤ (w.setCell ⟨g, i, none⟩ (.slice a row.length ci)).heap.size := by simp
  refine ⟨(same G (fun e => h.gD (by rw [e]; rfl))).trans h.two, ?_, ?_, by simp [h.len], ?_, h.okG⟩
  · exact row_move h.gro (fun k hk => same k (fun e => row_kinds h.gro h.vro (by decide) hk (by rw [e]; rfl)))
  · have hr := (World.ownsRow.stored h.vro i (.slice a row.length ci)).1
    unfold VRow
    rw [List.length_set]
    exact hr
  · intro j hj
    simp only [List.length_set] at hj
    by_cases hij : i = j
    · subst hij
      have e : (t.data.set i row).getD i [] = row := by simp [List.getD, hi]
      show ∃ ai ci', _ = some (Value.slice ai ((t.data.set i row).getD i []).length ci') ∧ RowIn _ _ ai ci' ((t.data.set i row).getD i []) ∧ _
      rw [e]
      refine ⟨a, ci, by rw [List.getElem?_set_self (by rw [h.len]; exact hi)], hr.same (fun b o s e => same b (hkg (hk b o s e).2)) hsz, fun b o s e => ⟨(hk b o s e).1, kk (hk b o s e).2⟩⟩
    · have e : (t.data.set i row).getD j [] = t.data.getD j [] := by simp [List.getD, List.getElem?_set_ne hij]
      show ∃ ai ci', _ = some (Value.slice ai ((t.data.set i row).getD j []).length ci') ∧ RowIn _ _ ai ci' ((t.data.set i row).getD j []) ∧ _
      rw [e]
      obtain ⟨aj, cj, h1, h2, h3⟩ := h.row j hj
      exact ⟨aj, cj, by rw [List.getElem?_set_ne hij]; exact h1, h2.same (fun b o s e => same b (hkg (h3 b o s e).2)) hsz, fun b o s e => ⟨(h3 b o s e).1, kk (h3 b o s e).2⟩⟩
theorem Out.tbl {w W : World} {B G : Nat} {r : Tb.T} {cv dv : Value} {vs : List Value} (h : Out w B G r cv dv vs) (hag : ∀ k, B ≤ k → k < w.heap.size → W.heap[k]? = w.heap[k]?) (hsz : w.heap.size ≤ W.heap.size) :
    ∃ ca cc da dc, cv = .slice ca r.cols.length cc ∧ dv = .slice da r.data.length dc ∧ Tbl W W.heap.size ca cc da dc r := by
  have hg : GRow B r.cols cv W := row_move h.gro (fun g hg => hag g (h.gro.lt g hg).1 (h.gro.lt g hg).2)
  have hv : VRow B vs dv W := row_move h.vro (fun g hg => hag g (h.vro.lt g hg).1 (h.vro.lt g hg).2)
  have hr : Reads W vs r.data := ⟨h.len, fun i hi => by
    obtain ⟨ai, ci, h1, h2, h3⟩ := h.row i hi
    refine ⟨ai, ci, h1, h2.len, h2.cap, h2.nil, h2.ok, ?_⟩
    intro hne
    obtain ⟨b, off, rfl, hb, hc⟩ := h2.cls hne
    have hk := hag b (h3 b off none rfl).1 hb
    refine ⟨b, off, rfl, by omega, fun j hj => ?_⟩
    obtain ⟨c0, c1, c2⟩ := hc j hj
    exact ⟨(World.cell?_of_block (a := ⟨b, off + j * 3, none⟩) hk).trans c0, (World.cell?_of_block (a := ⟨b, off + j * 3 + 1, none⟩) hk).trans c1, (World.cell?_of_block (a := ⟨b, off + j * 3 + 2, none⟩) hk).trans c2⟩⟩
  obtain ⟨ca, cc, rfl, h1, h2⟩ := grow_gls hg
  obtain ⟨da, dc, rfl, h3, h4⟩ := vrow_dat hv hr
  exact ⟨ca, cc, da, dc, rfl, rfl, h1, h3, h.okG, h2, h4⟩
end Go.Proofs.Ytnjnalehfhfefaa
