/- RestTexts: for every input the law hypostylelaw.RestTexts returns true, and its arguments read afterwards as they read before. -/
import Derived.Test.YtmiboibadccceaaGreatTLift
import Derived.SizedLaws
import Derived.Test.YtmiboibadccceaaGreatLift
import Derived.Test.YtmiboibadccceaaGreatKL9
namespace Go.Proofs.YtmiboibadccceaaGreat.restTexts
open Go.ChangeShapes Go.WideShapes Go.ChangeAt Go.RowKit
open Go.ChangeMaps (open_string shut_string)
set_option linter.unusedVariables false

set_option maxRecDepth 100000 in
theorem contract (H : Type) (enc : TypeId × Value → H) (W : World) (base : Nat) (args : Array Value) (ds gs : List (DataW H)) (before : List MemPlace)
    (hval : ∀ (j : Nat) t v, Tryz.f11.params[j]? = some t → args[j]? = some v → Value.okWide Tryz.prog W .any base t v)
    (hW : DataW.Whole enc Tryz.prog Tryz.f11.params.toList Rows.restTextsSpec.vars false W args.toList ds gs before) (hsz : (DataW.weightsEach Tryz.prog [31] (ds ++ gs)).all (· ≤ reachBytes) = true) :
    Calls Tryz.prog 11 args W fun e W' => ∃ v, e = .returned v ∧ Rows.restTextsSpec.post enc Tryz.prog Tryz.f11 false true false false W args v W' := by
  have hW' := hW
  obtain ⟨p, q, hA0, hV, rfl, hfz, hnd⟩ := hW
  have hA : DataW.TrodAll enc Tryz.prog W 0 (fun _ => true) true Tryz.f11.params.toList args.toList ds p := hA0
  rw [Tryz.params11] at hA hval
  obtain ⟨v0, vs0, d0, ds0, p0, q0, hargs, rfl, rfl, h0, r0⟩ := trodAll_cons hA
  obtain ⟨rfl, rfl, rfl⟩ := trodAll_nil r0
  obtain rfl : args = #[v0] := by cases args; simp_all
  obtain ⟨rfl, rfl⟩ := trodVars_none hV
  have k0 := h0
  have lt0 : ∀ x ∈ p0, x.block < W.heap.size := by obtain ⟨m, hm⟩ := k0; exact DataW.trod_lt m _ _ _ hm
  obtain ⟨a0, len0, cap0, rfl⟩ := okWide_slice Tryz.underlying31 (hval 0 31 v0 rfl rfl)
  obtain ⟨l0, hl0, hm0, hq0, hx0, hu0, hd0⟩ : ∃ l : List (List UInt8), l.length = len0 ∧ len0 ≤ maxLen ∧ (len0 ≤ cap0 ∧ cap0 ≤ maxLen ∧ (a0 = none → cap0 = 0)) ∧ (∀ x ∈ l, x.length ≤ maxLen) ∧ Txts W W.heap.size a0 l ∧ (d0 = .nil ∧ len0 = 0 ∨ ∃ r, d0 = .slice (l.map fun x => .lit (.string x)) r) := by
    obtain ⟨fuel, hf⟩ := h0
    exact open_texts Tryz.underlying31 Tryz.underlying9 (by kernel_rfl) hf
  subst hl0
  clear hA0 hval
  have hr0 : l0.length * 16 ≤ 140737488351232 := by
    rcases hd0 with ⟨_, h0⟩ | ⟨r, rfl⟩
    · rw [h0]; decide
    · have := sized_slice hsz (j := 0) (t := 31) (e := 9) rfl rfl Tryz.underlying31
      rw [show Tryz.prog.bytesOf 9 = 16 by kernel_rfl] at this
      simp only [List.length_map, reachBytes] at this
      omega
  refine (restTexts_walk W a0 cap0 l0 hm0 hq0 hx0 hu0 hr0).mono fun e W' ⟨he, bel⟩ => ?_
  subst he
  exact ⟨_, rfl, _, _, _, [], _, [], hW', trodAll_mk1 (shut_bool Tryz.underlying4 _), (trodAll_cons_mk (Below.trod laid_out (by kernel_rfl) (of_decide_eq_true (by kernel_rfl)) k0 bel lt0) trodAll_mk0), rfl, bel.frame _, fun h => by cases h⟩

set_option maxRecDepth 100000 in
theorem lifted (os : Os) (started : os.Started) (H : Type) (enc : TypeId × Value → H) :
    ReturnsInHanded {} Tryz.checked os 11 .any (Rows.restTextsSpec.pre6 enc Tryz.prog Tryz.f11 Rows.restTextsRow.domain false) (Rows.restTextsSpec.post enc Tryz.prog Tryz.f11 false true false false) := by
  refine returnsInHanded_of_change_sized (C := Tryz.checked) own_knob started (by kernel_rfl) Tryz.func11
    (ChangeSpec.witness6 (enc := enc) (C := Tryz.checked) false ⟨#[], #[.slice none 0 0], []⟩ 8 (by kernel_rfl) (by kernel_rfl) (by kernel_rfl) (by kernel_rfl)) ?_
  intro W base args ds gs before hval hW hcnd hsz _
  exact contract H enc W base args ds gs before hval hW hsz

theorem over : Rows.restTextsRow.holds Tryz.pinned (OpenSpec.ofChange Rows.restTextsSpec) :=
  OpenClaim.holds_of_wide 11 Tryz.f11 rfl rfl rfl rfl rfl rfl rfl ⟨rfl, rfl, rfl, rfl, rfl⟩ rfl rfl rfl rfl rfl (by kernel_rfl) Tryz.func11 (by kernel_rfl)
    (of_decide_eq_true (by kernel_rfl)) (by unfold Func.isWrapper; first | (rw [if_pos (by decide +kernel)]; kernel_rfl) | (rw [if_neg (by decide +kernel)]; exact ⟨rfl, rfl⟩))
    (fun os started H enc _ => lifted os started H enc)

theorem proved : Rows.RestTextsSaid :=
  over
#print axioms proved
end Go.Proofs.YtmiboibadccceaaGreat.restTexts
