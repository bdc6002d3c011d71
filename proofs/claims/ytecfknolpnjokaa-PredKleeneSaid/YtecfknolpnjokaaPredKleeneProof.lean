/- PredKleene: for every input the law hypostylelaw.PredKleene returns true, and its arguments read afterwards as they read before. -/
import Derived.Test.YtecfknolpnjokaaCLift
import Derived.Test.YtecfknolpnjokaaOLift
import Derived.Test.YtecfknolpnjokaaOLift
import Derived.Test.YtecfknolpnjokaaOLift
import Derived.Test.YtecfknolpnjokaaOLift
import Derived.Test.YtecfknolpnjokaaLift
import Derived.Test.YtecfknolpnjokaaOL4
namespace Go.Proofs.Ytecfknolpnjokaa.predKleene
open Go.ChangeShapes Go.WideShapes Go.ChangeAt Go.RowKit
open Go.ChangeMaps (open_string shut_string)
set_option linter.unusedVariables false

set_option maxRecDepth 100000 in
theorem contract (H : Type) (enc : TypeId × Value → H) (W : World) (base : Nat) (args : Array Value) (ds gs : List (DataW H)) (before : List MemPlace)
    (hval : ∀ (j : Nat) t v, Try.f7.params[j]? = some t → args[j]? = some v → Value.okWide Try.prog W .any base t v)
    (hW : DataW.Whole enc Try.prog Try.f7.params.toList Rows.predKleeneSpec.vars false W args.toList ds gs before) :
    Calls Try.prog 7 args W fun e W' => ∃ v, e = .returned v ∧ Rows.predKleeneSpec.post enc Try.prog Try.f7 false true false false W args v W' := by
  have hW' := hW
  obtain ⟨p, q, hA0, hV, rfl, hfz, hnd⟩ := hW
  have hA : DataW.TrodAll enc Try.prog W 0 (fun _ => true) true Try.f7.params.toList args.toList ds p := hA0
  rw [Try.params7] at hA hval
  obtain ⟨v0, vs0, d0, ds0, p0, q0, hargs, rfl, rfl, h0, r0⟩ := trodAll_cons hA
  obtain ⟨v1, vs1, d1, ds1, p1, q1, rfl, rfl, rfl, h1, r1⟩ := trodAll_cons r0
  obtain ⟨v2, vs2, d2, ds2, p2, q2, rfl, rfl, rfl, h2, r2⟩ := trodAll_cons r1
  obtain ⟨v3, vs3, d3, ds3, p3, q3, rfl, rfl, rfl, h3, r3⟩ := trodAll_cons r2
  obtain ⟨v4, vs4, d4, ds4, p4, q4, rfl, rfl, rfl, h4, r4⟩ := trodAll_cons r3
  obtain ⟨v5, vs5, d5, ds5, p5, q5, rfl, rfl, rfl, h5, r5⟩ := trodAll_cons r4
  obtain ⟨rfl, rfl, rfl⟩ := trodAll_nil r5
  obtain rfl : args = #[v0, v1, v2, v3, v4, v5] := by cases args; simp_all
  obtain ⟨rfl, rfl⟩ := trodVars_none hV
  have k0 := h0
  have lt0 : ∀ x ∈ p0, x.block < W.heap.size := by obtain ⟨m, hm⟩ := k0; exact DataW.trod_lt m _ _ _ hm
  obtain ⟨a0, len0, cap0, rfl⟩ := okWide_slice Try.underlying22 (hval 0 22 v0 rfl rfl)
  obtain ⟨l0, hl0, hm0, hq0, hx0, hu0, hd0⟩ : ∃ l : List (O.Cd), l.length = len0 ∧ len0 ≤ maxLen ∧ (len0 ≤ cap0 ∧ cap0 ≤ maxLen ∧ (a0 = none → cap0 = 0)) ∧ (∀ x ∈ l, dOk x) ∧ Cds W W.heap.size a0 l ∧ (d0 = .nil ∧ len0 = 0 ∨ ∃ r, d0 = .slice (l.map condD) r) := by
    obtain ⟨fuel, hf⟩ := h0
    exact open_conds Try.underlying22 hf
  subst hl0
  have k1 := h1
  have lt1 : ∀ x ∈ p1, x.block < W.heap.size := by obtain ⟨m, hm⟩ := k1; exact DataW.trod_lt m _ _ _ hm
  obtain ⟨a1, len1, cap1, rfl⟩ := okWide_slice Try.underlying22 (hval 1 22 v1 rfl rfl)
  obtain ⟨l1, hl1, hm1, hq1, hx1, hu1, hd1⟩ : ∃ l : List (O.Cd), l.length = len1 ∧ len1 ≤ maxLen ∧ (len1 ≤ cap1 ∧ cap1 ≤ maxLen ∧ (a1 = none → cap1 = 0)) ∧ (∀ x ∈ l, dOk x) ∧ Cds W W.heap.size a1 l ∧ (d1 = .nil ∧ len1 = 0 ∨ ∃ r, d1 = .slice (l.map condD) r) := by
    obtain ⟨fuel, hf⟩ := h1
    exact open_conds Try.underlying22 hf
  subst hl1
  have k2 := h2
  have lt2 : ∀ x ∈ p2, x.block < W.heap.size := by obtain ⟨m, hm⟩ := k2; exact DataW.trod_lt m _ _ _ hm
  obtain ⟨a2, len2, cap2, rfl⟩ := okWide_slice Try.underlying23 (hval 2 23 v2 rfl rfl)
  obtain ⟨l2, hl2, hm2, hq2, hx2, hu2, hd2⟩ : ∃ l : List (Int), l.length = len2 ∧ len2 ≤ maxLen ∧ (len2 ≤ cap2 ∧ cap2 ≤ maxLen ∧ (a2 = none → cap2 = 0)) ∧ (∀ x ∈ l, -9223372036854775808 ≤ x ∧ x ≤ 9223372036854775807) ∧ Ints W W.heap.size a2 l ∧ (d2 = .nil ∧ len2 = 0 ∨ ∃ r, d2 = .slice (l.map intD) r) := by
    obtain ⟨fuel, hf⟩ := h2
    exact open_ks Try.underlying23 hf
  subst hl2
  have k3 := h3
  have lt3 : ∀ x ∈ p3, x.block < W.heap.size := by obtain ⟨m, hm⟩ := k3; exact DataW.trod_lt m _ _ _ hm
  obtain ⟨a3, len3, cap3, rfl⟩ := okWide_slice Try.underlying24 (hval 3 24 v3 rfl rfl)
  obtain ⟨l3, hl3, hm3, hq3, hx3, hu3, hd3⟩ : ∃ l : List C.Cl, l.length = len3 ∧ len3 ≤ maxLen ∧ (len3 ≤ cap3 ∧ cap3 ≤ maxLen ∧ (a3 = none → cap3 = 0)) ∧ (∀ x ∈ l, cOk x) ∧ Cls W W.heap.size a3 l ∧ (d3 = .nil ∧ len3 = 0 ∨ ∃ r, d3 = .slice (l.map cellD) r) := by
    obtain ⟨fuel, hf⟩ := h3
    exact open_cells Try.underlying24 hf
  subst hl3
  have k4 := h4
  have lt4 : ∀ x ∈ p4, x.block < W.heap.size := by obtain ⟨m, hm⟩ := k4; exact DataW.trod_lt m _ _ _ hm
  obtain ⟨a4, len4, cap4, rfl⟩ := okWide_slice Try.underlying31 (hval 4 31 v4 rfl rfl)
  obtain ⟨l4, hl4, hm4, hq4, hx4, hu4, hd4⟩ : ∃ l : List (S.St), l.length = len4 ∧ len4 ≤ maxLen ∧ (len4 ≤ cap4 ∧ cap4 ≤ maxLen ∧ (a4 = none → cap4 = 0)) ∧ (∀ x ∈ l, sOk x) ∧ Sts W W.heap.size a4 l ∧ (d4 = .nil ∧ len4 = 0 ∨ ∃ r, d4 = .slice (l.map statsD) r) := by
    obtain ⟨fuel, hf⟩ := h4
    exact open_sts Try.underlying31 hf
  subst hl4
  have k5 := h5
  have lt5 : ∀ x ∈ p5, x.block < W.heap.size := by obtain ⟨m, hm⟩ := k5; exact DataW.trod_lt m _ _ _ hm
  obtain ⟨a5, len5, cap5, rfl⟩ := okWide_slice Try.underlying32 (hval 5 32 v5 rfl rfl)
  obtain ⟨l5, hl5, hm5, hq5, hx5, hu5, hd5⟩ : ∃ l : List (Bl.F), l.length = len5 ∧ len5 ≤ maxLen ∧ (len5 ≤ cap5 ∧ cap5 ≤ maxLen ∧ (a5 = none → cap5 = 0)) ∧ (∀ x ∈ l, Bl.fOk x) ∧ Fls W W.heap.size a5 l ∧ (d5 = .nil ∧ len5 = 0 ∨ ∃ r, d5 = .slice (l.map filD) r) := by
    obtain ⟨fuel, hf⟩ := h5
    exact open_fils Try.underlying32 hf
  subst hl5
  clear hA0 hval
  refine (predKleene_walk W a0 cap0 l0 hm0 hq0 hx0 hu0 a1 cap1 l1 hm1 hq1 hx1 hu1 a2 cap2 l2 hm2 hq2 hx2 hu2 a3 cap3 l3 hm3 hq3 hx3 hu3 a4 cap4 l4 hm4 hq4 hx4 hu4 a5 cap5 l5 hm5 hq5 hx5 hu5).mono fun e W' ⟨he, bel⟩ => ?_
  subst he
  exact ⟨_, rfl, _, _, _, [], _, [], hW', trodAll_mk1 (shut_bool Try.underlying4 _), (trodAll_cons_mk (Below.trod laid_out (by kernel_rfl) (of_decide_eq_true (by kernel_rfl)) k0 bel lt0) (trodAll_cons_mk (Below.trod laid_out (by kernel_rfl) (of_decide_eq_true (by kernel_rfl)) k1 bel lt1) (trodAll_cons_mk (Below.trod laid_out (by kernel_rfl) (of_decide_eq_true (by kernel_rfl)) k2 bel lt2) (trodAll_cons_mk (Below.trod laid_out (by kernel_rfl) (of_decide_eq_true (by kernel_rfl)) k3 bel lt3) (trodAll_cons_mk (Below.trod laid_out (by kernel_rfl) (of_decide_eq_true (by kernel_rfl)) k4 bel lt4) (trodAll_cons_mk (Below.trod laid_out (by kernel_rfl) (of_decide_eq_true (by kernel_rfl)) k5 bel lt5) trodAll_mk0)))))), rfl, bel.frame _, fun h => by cases h⟩

set_option maxRecDepth 100000 in
theorem lifted (os : Os) (started : os.Started) (H : Type) (enc : TypeId × Value → H) :
    ReturnsInHanded {} Try.checked os 7 .any (Rows.predKleeneSpec.pre6 enc Try.prog Try.f7 Rows.predKleeneRow.domain false) (Rows.predKleeneSpec.post enc Try.prog Try.f7 false true false false) := by
  refine returnsInHanded_of_change (C := Try.checked) own_knob started (by kernel_rfl) Try.func7
    (ChangeSpec.witness6 (enc := enc) (C := Try.checked) false ⟨#[], #[.slice none 0 0, .slice none 0 0, .slice none 0 0, .slice none 0 0, .slice none 0 0, .slice none 0 0], []⟩ 8 (by kernel_rfl) (by kernel_rfl) (by kernel_rfl) (by kernel_rfl)) ?_
  intro W base args ds gs before hval hW hcnd _
  exact contract H enc W base args ds gs before hval hW

theorem over : Rows.predKleeneRow.holds Try.pinned (OpenSpec.ofChange Rows.predKleeneSpec) :=
  OpenClaim.holds_of_wide 7 Try.f7 rfl rfl rfl rfl rfl rfl rfl ⟨rfl, rfl, rfl, rfl, rfl⟩ rfl rfl rfl rfl rfl (by kernel_rfl) Try.func7 (by kernel_rfl)
    (of_decide_eq_true (by kernel_rfl)) (by unfold Func.isWrapper; first | (rw [if_pos (by decide +kernel)]; kernel_rfl) | (rw [if_neg (by decide +kernel)]; exact ⟨rfl, rfl⟩))
    (fun os started H enc _ => lifted os started H enc)

theorem proved : Rows.PredKleeneSaid :=
  over
#print axioms proved
end Go.Proofs.Ytecfknolpnjokaa.predKleene
