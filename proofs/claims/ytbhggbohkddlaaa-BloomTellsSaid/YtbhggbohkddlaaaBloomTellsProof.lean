/- BloomTells: for every input the law hypostylelaw.BloomTells returns true, and its arguments read afterwards as they read before. -/
import Derived.Test.YtbhggbohkddlaaaCLift
import Derived.Test.YtbhggbohkddlaaaCLift
import Derived.Test.YtbhggbohkddlaaaBlLift
import Derived.SizedLaws
import Derived.Test.YtbhggbohkddlaaaCSized
import Derived.Test.YtbhggbohkddlaaaLift
import Derived.Test.YtbhggbohkddlaaaBlL1
namespace Go.Proofs.Ytbhggbohkddlaaa.bloomTells
open Go.ChangeShapes Go.WideShapes Go.ChangeAt Go.RowKit
open Go.ChangeMaps (open_string shut_string)
set_option linter.unusedVariables false

set_option maxRecDepth 100000 in
theorem contract (H : Type) (enc : TypeId × Value → H) (W : World) (base : Nat) (args : Array Value) (ds gs : List (DataW H)) (before : List MemPlace)
    (hval : ∀ (j : Nat) t v, Try.f3.params[j]? = some t → args[j]? = some v → Value.okWide Try.prog W .any base t v)
    (hW : DataW.Whole enc Try.prog Try.f3.params.toList Rows.bloomTellsSpec.vars false W args.toList ds gs before) (hsz : (DataW.weightsEach Try.prog [23, 23, 24, 26] (ds ++ gs)).all (· ≤ reachBytes) = true) :
    Calls Try.prog 3 args W fun e W' => ∃ v, e = .returned v ∧ Rows.bloomTellsSpec.post enc Try.prog Try.f3 false true false false W args v W' := by
  have hW' := hW
  obtain ⟨p, q, hA0, hV, rfl, hfz, hnd⟩ := hW
  have hA : DataW.TrodAll enc Try.prog W 0 (fun _ => true) true Try.f3.params.toList args.toList ds p := hA0
  rw [Try.params3] at hA hval
  obtain ⟨v0, vs0, d0, ds0, p0, q0, hargs, rfl, rfl, h0, r0⟩ := trodAll_cons hA
  obtain ⟨v1, vs1, d1, ds1, p1, q1, rfl, rfl, rfl, h1, r1⟩ := trodAll_cons r0
  obtain ⟨v2, vs2, d2, ds2, p2, q2, rfl, rfl, rfl, h2, r2⟩ := trodAll_cons r1
  obtain ⟨v3, vs3, d3, ds3, p3, q3, rfl, rfl, rfl, h3, r3⟩ := trodAll_cons r2
  obtain ⟨rfl, rfl, rfl⟩ := trodAll_nil r3
  obtain rfl : args = #[v0, v1, v2, v3] := by cases args; simp_all
  obtain ⟨rfl, rfl⟩ := trodVars_none hV
  have k0 := h0
  have lt0 : ∀ x ∈ p0, x.block < W.heap.size := by obtain ⟨m, hm⟩ := k0; exact DataW.trod_lt m _ _ _ hm
  obtain ⟨c0, rfl, rfl, rfl, hc0⟩ := open_fil (hval 0 23 v0 rfl rfl) h0
  have k1 := h1
  have lt1 : ∀ x ∈ p1, x.block < W.heap.size := by obtain ⟨m, hm⟩ := k1; exact DataW.trod_lt m _ _ _ hm
  obtain ⟨c1, rfl, rfl, rfl, hc1⟩ := open_fil (hval 1 23 v1 rfl rfl) h1
  have k2 := h2
  have lt2 : ∀ x ∈ p2, x.block < W.heap.size := by obtain ⟨m, hm⟩ := k2; exact DataW.trod_lt m _ _ _ hm
  obtain ⟨a2, len2, cap2, rfl⟩ := okWide_slice Try.underlying24 (hval 2 24 v2 rfl rfl)
  obtain ⟨l2, hl2, hm2, hq2, hx2, hu2, hd2⟩ : ∃ l : List C.Cl, l.length = len2 ∧ len2 ≤ maxLen ∧ (len2 ≤ cap2 ∧ cap2 ≤ maxLen ∧ (a2 = none → cap2 = 0)) ∧ (∀ x ∈ l, cOk x) ∧ Cls W W.heap.size a2 l ∧ (d2 = .nil ∧ len2 = 0 ∨ ∃ r, d2 = .slice (l.map cellD) r) := by
    obtain ⟨fuel, hf⟩ := h2
    exact open_cells Try.underlying24 hf
  subst hl2
  have k3 := h3
  have lt3 : ∀ x ∈ p3, x.block < W.heap.size := by obtain ⟨m, hm⟩ := k3; exact DataW.trod_lt m _ _ _ hm
  obtain ⟨c3, rfl, rfl, rfl, hc3⟩ := open_cell (hval 3 26 v3 rfl rfl) h3
  clear hA0 hval
  have hr2 : l2.length * 32 ≤ 140737488351232 := by
    rcases hd2 with ⟨_, h0⟩ | ⟨r, rfl⟩
    · rw [h0]; decide
    · have := sized_slice hsz (j := 2) (t := 24) (e := 26) rfl rfl Try.underlying24
      rw [show Try.prog.bytesOf 26 = 32 by kernel_rfl] at this
      simp only [List.length_map, reachBytes] at this
      omega
  have ht2 : ∀ x ∈ l2, x.txt.length ≤ 140737488351232 := by
    rcases hd2 with ⟨_, h0⟩ | ⟨r, rfl⟩
    · intro x hx; rw [List.eq_nil_of_length_eq_zero h0] at hx; simp at hx
    · exact sized_cells hsz (j := 2) rfl rfl
  have ht3 : c3.txt.length ≤ 140737488351232 := sized_cell hsz (j := 3) rfl rfl
  refine (bloomTells_walk W c0 hc0 c1 hc1 a2 cap2 l2 hm2 hq2 hx2 hu2 c3 hc3 hr2 ht2 ht3).mono fun e W' ⟨he, bel⟩ => ?_
  subst he
  exact ⟨_, rfl, _, _, _, [], _, [], hW', trodAll_mk1 (shut_bool Try.underlying4 _), (trodAll_cons_mk (Below.trod laid_out (by kernel_rfl) (of_decide_eq_true (by kernel_rfl)) k0 bel lt0) (trodAll_cons_mk (Below.trod laid_out (by kernel_rfl) (of_decide_eq_true (by kernel_rfl)) k1 bel lt1) (trodAll_cons_mk (Below.trod laid_out (by kernel_rfl) (of_decide_eq_true (by kernel_rfl)) k2 bel lt2) (trodAll_cons_mk (Below.trod laid_out (by kernel_rfl) (of_decide_eq_true (by kernel_rfl)) k3 bel lt3) trodAll_mk0)))), rfl, bel.frame _, fun h => by cases h⟩

set_option maxRecDepth 100000 in
theorem lifted (os : Os) (started : os.Started) (H : Type) (enc : TypeId × Value → H) :
    ReturnsInHanded {} Try.checked os 3 .any (Rows.bloomTellsSpec.pre6 enc Try.prog Try.f3 Rows.bloomTellsRow.domain false) (Rows.bloomTellsSpec.post enc Try.prog Try.f3 false true false false) := by
  refine returnsInHanded_of_change_sized (C := Try.checked) own_knob started (by kernel_rfl) Try.func3
    (ChangeSpec.witness6 (enc := enc) (C := Try.checked) false ⟨#[], #[.agg #[.int .u64 0, .int .u64 0, .int .u64 0, .int .u64 0], .agg #[.int .u64 0, .int .u64 0, .int .u64 0, .int .u64 0], .slice none 0 0, .agg #[.int .i64 0, .int .u64 0, .string ByteArray.empty]], []⟩ 8 (by kernel_rfl) (by kernel_rfl) (by kernel_rfl) (by kernel_rfl)) ?_
  intro W base args ds gs before hval hW hcnd hsz _
  exact contract H enc W base args ds gs before hval hW hsz

theorem over : Rows.bloomTellsRow.holds Try.pinned (OpenSpec.ofChange Rows.bloomTellsSpec) :=
  OpenClaim.holds_of_wide 3 Try.f3 rfl rfl rfl rfl rfl rfl rfl ⟨rfl, rfl, rfl, rfl, rfl⟩ rfl rfl rfl rfl rfl (by kernel_rfl) Try.func3 (by kernel_rfl)
    (of_decide_eq_true (by kernel_rfl)) (by unfold Func.isWrapper; first | (rw [if_pos (by decide +kernel)]; kernel_rfl) | (rw [if_neg (by decide +kernel)]; exact ⟨rfl, rfl⟩))
    (fun os started H enc _ => lifted os started H enc)

theorem proved : Rows.BloomTellsSaid :=
  over
#print axioms proved
end Go.Proofs.Ytbhggbohkddlaaa.bloomTells
