/- (*changed).land; stores into rows of entries, of nodes. -/
import Derived.Test.YtmjcdjekakaigaaFsCo
namespace Go.Proofs.Ytmjcdjekakaigaa.Fs
open Go.RowKit
set_option linter.unusedVariables false

theorem fm_set {α : Type} {f : α → List Value} {n : Nat} (hf : ∀ x, (f x).length = n) : ∀ (l : List α) (z y : α) (i j : Nat) (u : Value), i < l.length → j < n → (f (l.getD i z)).set j u = f y → (l.flatMap f).set (i * n + j) u = (l.set i y).flatMap f
  | [], z, y, i, j, u, h, _, _ => by simp at h
  | x :: r, z, y, 0, j, u, _, hj, e => by
    rw [List.flatMap_cons, List.set_cons_zero, List.flatMap_cons, Nat.zero_mul, Nat.zero_add, List.set_append_left _ _ (by rw [hf]; exact hj)]
    have e : (f x).set j u = f y := by simpa using e
    rw [e]
  | x :: r, z, y, i + 1, j, u, h, hj, e => by
    rw [List.flatMap_cons, List.set_cons_succ, List.flatMap_cons, List.set_append_right _ _ (by rw [hf, Nat.add_mul]; omega), hf, show (i + 1) * n + j - n = i * n + j by rw [Nat.add_mul]; omega]
    rw [fm_set hf r z y i j u (by simpa using h) hj (by simpa using e)]
theorem NRow.put {B : Nat} {l : List Nd} {w : World} {g n c : Nat} (h : NRow B l (.slice (some ⟨g, 0, none⟩) n c) w) {i j : Nat} {u : Value} {y : Nd} (hi : i < l.length) (hj : j < 2) (e : (ndx (l.getD i nulN)).set j u = ndx y) :
    NRow B (l.set i y) (.slice (some ⟨g, 0, none⟩) n c) (w.setCell ⟨g, i * 2 + j, none⟩ u) := by
  unfold NRow at h ⊢
  obtain rfl := (row_cap h).1
  have h1 := (World.ownsRow.stored h (i * 2 + j) u).1
  rw [List.length_set, ← fm_set (f := ndx) (n := 2) (fun _ => rfl) l nulN y i j u hi hj e]
  exact h1
theorem ERow.put {B : Nat} {l : List En} {w : World} {g n c : Nat} (h : ERow B l (.slice (some ⟨g, 0, none⟩) n c) w) {i j : Nat} {u : Value} {y : En} (hi : i < l.length) (hj : j < 2) (e : (enx (l.getD i nulE)).set j u = enx y) :
    ERow B (l.set i y) (.slice (some ⟨g, 0, none⟩) n c) (w.setCell ⟨g, i * 2 + j, none⟩ u) := by
  unfold ERow at h ⊢
  obtain rfl := (row_cap h).1
  have h1 := (World.ownsRow.stored h (i * 2 + j) u).1
  rw [List.length_set, ← fm_set (f := enx) (n := 2) (fun _ => rfl) l nulE y i j u hi hj e]
  exact h1
theorem NRow.at {B : Nat} {l : List Nd} {w : World} {v : Value} (h : NRow B l v w) {i : Nat} (hi : i < l.length) : ∃ g n c, v = .slice (some ⟨g, 0, none⟩) n c ∧ n = l.length ∧ B ≤ g ∧ w.cell? ⟨g, i * 2, none⟩ = some (.string (str (l.getD i nulN).live)) ∧ w.cell? ⟨g, i * 2 + 1, none⟩ = some (.string (str (l.getD i nulN).syn)) ∧ (∀ j, w.frozen? ⟨g, j, none⟩ = false) ∧ l.length ≤ c ∧ c ≤ maxLen := by
  have h0 := h
  unfold NRow at h0
  rcases h0.2 with ⟨_, e⟩ | ⟨g, cap, cur, rfl, e2, e3, e4, e5, _⟩
  · omega
  · have hc : ∀ j, j < 2 → w.cell? ⟨g, i * 2 + j, none⟩ = (ndx (l.getD i nulN))[j]? := fun j hj => by
      rw [h0.cellAt _ (by omega), fm_get (n := 2) (fun _ => rfl) l nulN i j hi hj]
    exact ⟨g, _, cap, rfl, rfl, e2, hc 0 (by omega), hc 1 (by omega), fun j => h0.frozenAt _, e4, e5⟩
theorem ERow.at {B : Nat} {l : List En} {w : World} {v : Value} (h : ERow B l v w) {i : Nat} (hi : i < l.length) : ∃ g n c, v = .slice (some ⟨g, 0, none⟩) n c ∧ n = l.length ∧ B ≤ g ∧ w.cell? ⟨g, i * 2, none⟩ = some (.string (str (l.getD i nulE).name)) ∧ w.cell? ⟨g, i * 2 + 1, none⟩ = some (.int .i64 (l.getD i nulE).node) ∧ (∀ j, w.frozen? ⟨g, j, none⟩ = false) ∧ l.length ≤ c ∧ c ≤ maxLen := by
  have h0 := h
  unfold ERow at h0
  rcases h0.2 with ⟨_, e⟩ | ⟨g, cap, cur, rfl, e2, e3, e4, e5, _⟩
  · omega
  · have hc : ∀ j, j < 2 → w.cell? ⟨g, i * 2 + j, none⟩ = (enx (l.getD i nulE))[j]? := fun j hj => by
      rw [h0.cellAt _ (by omega), fm_get (n := 2) (fun _ => rfl) l nulE i j hi hj]
    exact ⟨g, _, cap, rfl, rfl, e2, hc 0 (by omega), hc 1 (by omega), fun j => h0.frozenAt _, e4, e5⟩
section
variable {w : World} {B G : Nat} {f : T} {nv dv sv : Value}
/-- a store into the row of nodes; of the directory; of what it is for good -/
theorem Chg.putN {g n c : Nat} (h : Chg w B G f (.slice (some ⟨g, 0, none⟩) n c) dv sv) {i j : Nat} {u : Value} {y : Nd} (hi : i < f.nodes.length) (hj : j < 2) (e : (ndx (f.nodes.getD i nulN)).set j u = ndx y) (hy : ndOk y) :
    Chg (w.setCell ⟨g, i * 2 + j, none⟩ u) B G ⟨f.nodes.set i y, f.dir, f.syn⟩ (.slice (some ⟨g, 0, none⟩) n c) dv sv where
  nro := NRow.put h.nro hi hj e
  dro := row_move h.dro (fun k hk => heap_set _ _ _ _ (fun e2 => row_kinds h.dro h.nro (by decide) hk (by rw [e2]; rfl)))
  sro := row_move h.sro (fun k hk => heap_set _ _ _ _ (fun e2 => row_kinds h.sro h.nro (by decide) hk (by rw [e2]; rfl)))
  far := h.far
  nok := fun x hx => by
    rcases List.mem_or_eq_of_mem_set hx with hx | hx
    · exact h.nok x hx
    · rw [hx]; exact hy
  dok := h.dok
  sok := h.sok
  bk := h.bk.move (heap_set _ _ _ _ (fun e2 => h.gN (by rw [e2]; rfl)))
  ge := h.ge
theorem Chg.putD {g n c : Nat} (h : Chg w B G f nv (.slice (some ⟨g, 0, none⟩) n c) sv) {i j : Nat} {u : Value} {y : En} (hi : i < f.dir.length) (hj : j < 2) (e : (enx (f.dir.getD i nulE)).set j u = enx y) (hy : enOk y) :
    Chg (w.setCell ⟨g, i * 2 + j, none⟩ u) B G ⟨f.nodes, f.dir.set i y, f.syn⟩ nv (.slice (some ⟨g, 0, none⟩) n c) sv where
  nro := row_move h.nro (fun k hk => heap_set _ _ _ _ (fun e2 => row_kinds h.nro h.dro (by decide) hk (by rw [e2]; rfl)))
  dro := ERow.put h.dro hi hj e
  sro := row_move h.sro (fun k hk => heap_set _ _ _ _ (fun e2 => h.far g rfl (by rw [hk, e2])))
  far := h.far
  nok := h.nok
  dok := fun x hx => by
    rcases List.mem_or_eq_of_mem_set hx with hx | hx
    · exact h.dok x hx
    · rw [hx]; exact hy
  sok := h.sok
  bk := h.bk.move (heap_set _ _ _ _ (fun e2 => h.gD (by rw [e2]; rfl)))
  ge := h.ge
theorem Chg.putS {g n c : Nat} (h : Chg w B G f nv dv (.slice (some ⟨g, 0, none⟩) n c)) {i j : Nat} {u : Value} {y : En} (hi : i < f.syn.length) (hj : j < 2) (e : (enx (f.syn.getD i nulE)).set j u = enx y) (hy : enOk y) :
    Chg (w.setCell ⟨g, i * 2 + j, none⟩ u) B G ⟨f.nodes, f.dir, f.syn.set i y⟩ nv dv (.slice (some ⟨g, 0, none⟩) n c) where
  nro := row_move h.nro (fun k hk => heap_set _ _ _ _ (fun e2 => row_kinds h.nro h.sro (by decide) hk (by rw [e2]; rfl)))
  dro := row_move h.dro (fun k hk => heap_set _ _ _ _ (fun e2 => h.far k hk (by rw [e2]; rfl)))
  sro := ERow.put h.sro hi hj e
  far := h.far
  nok := h.nok
  dok := h.dok
  sok := fun x hx => by
    rcases List.mem_or_eq_of_mem_set hx with hx | hx
    · exact h.sok x hx
    · rw [hx]; exact hy
  bk := h.bk.move (heap_set _ _ _ _ (fun e2 => h.gS (by rw [e2]; rfl)))
  ge := h.ge
end
set_option maxHeartbeats 2000000 in
set_option maxRecDepth 100000 in
theorem land_any (B G i : Nat) (b : Bool) (f : T) (nv dv sv : Value) (w : World) (h : Chg w B G f nv dv sv) (hi : i < f.nodes.length) :
    Calls Try.prog 25 #[.pointer (some ⟨G, 0, none⟩), .int .i64 i, .bool b] w (MetPost B G ⟨landN f.nodes i b, f.dir, f.syn⟩ w) := by
  obtain ⟨g, n, c, e1, hn, hBg, k0, k1, hfz, hlc, hcm⟩ := h.nro.at hi
  subst e1; subst hn
  obtain ⟨c0, c1, c2⟩ := h.bk.three
  have z0 := hfz (i * 2)
  have z1 := hfz (i * 2 + 1)
  have hiI : (i : Int) < (f.nodes.length : Int) := by omega
  have hok := h.nok _ (getD_mem f.nodes nulN i hi)
  unfold maxLen at hcm
  cases b with
  | true =>
    have HR := Lib.hid (h.putN (i := i) (j := 1) (u := .string (str (f.nodes.getD i nulN).live)) (y := ⟨(f.nodes.getD i nulN).live, (f.nodes.getD i nulN).live⟩) hi (by omega) rfl ⟨hok.1, hok.1⟩)
    have hbB := fun u : Value => (Below.refl B w).setCell (p := ⟨g, i * 2 + 1, none⟩) hBg u
    unfold landN
    rw [if_pos rfl]
    generalize f.nodes.set i _ = L at *
    generalize (f.nodes.getD i nulN).live = tx at *
    clear h hok
    go_enter Try.func25, Try.ntmps25
    go_wp2_with fail
    go_end0
    exact ⟨rfl, hbB _, _, _, _, HR.out⟩
  | false =>
    have HR := Lib.hid (h.putN (i := i) (j := 0) (u := .string (str (f.nodes.getD i nulN).syn)) (y := ⟨(f.nodes.getD i nulN).syn, (f.nodes.getD i nulN).syn⟩) hi (by omega) rfl ⟨hok.2, hok.2⟩)
    have hbB := fun u : Value => (Below.refl B w).setCell (p := ⟨g, i * 2, none⟩) hBg u
    unfold landN
    rw [if_neg (by simp)]
    rw [Nat.add_zero] at HR
    generalize f.nodes.set i _ = L at *
    generalize (f.nodes.getD i nulN).syn = tx at *
    clear h hok
    go_enter Try.func25, Try.ntmps25
    go_wp2_with fail
    go_end0
    exact ⟨rfl, hbB _, _, _, _, HR.out⟩
end Go.Proofs.Ytmjcdjekakaigaa.Fs
