/- ShredJoinsUpto: for every input of bulk at most 1048576 the law hypostylelaw.ShredJoins returns true, and its arguments read afterwards as they read before. -/
import Derived.Test.YtjfkoledbegpfaaShLift
import Derived.Test.YtjfkoledbegpfaaShLift
import Derived.Test.YtjfkoledbegpfaaShBk
import Derived.Test.YtjfkoledbegpfaaLift
import Derived.Test.YtjfkoledbegpfaaShL6
namespace Go.Proofs.Ytjfkoledbegpfaa.shredJoinsUpto
open Go.ChangeShapes Go.WideShapes Go.ChangeAt Go.RowKit
open Go.ChangeMaps (open_string shut_string)
set_option linter.unusedVariables false

set_option maxRecDepth 100000 in
theorem contract (H : Type) (enc : TypeId × Value → H) (W : World) (base : Nat) (args : Array Value) (ds gs : List (DataW H)) (before : List MemPlace)
    (hval : ∀ (j : Nat) t v, Try.f4.params[j]? = some t → args[j]? = some v → Value.okWide Try.prog W .any base t v)
    (hW : DataW.Whole enc Try.prog Try.f4.params.toList Rows.shredJoinsSpec.vars false W args.toList ds gs before) (hk : Rows.uptoSmall H (ds ++ gs) = true) :
    Calls Try.prog 4 args W fun e W' => ∃ v, e = .returned v ∧ Rows.shredJoinsSpec.post enc Try.prog Try.f4 false true false false W args v W' := by
  have hW' := hW
  obtain ⟨p, q, hA0, hV, rfl, hfz, hnd⟩ := hW
  have hA : DataW.TrodAll enc Try.prog W 0 (fun _ => true) true Try.f4.params.toList args.toList ds p := hA0
  rw [Try.params4] at hA hval
  obtain ⟨v0, vs0, d0, ds0, p0, q0, hargs, rfl, rfl, h0, r0⟩ := trodAll_cons hA
  obtain ⟨v1, vs1, d1, ds1, p1, q1, rfl, rfl, rfl, h1, r1⟩ := trodAll_cons r0
  obtain ⟨rfl, rfl, rfl⟩ := trodAll_nil r1
  obtain rfl : args = #[v0, v1] := by cases args; simp_all
  obtain ⟨rfl, rfl⟩ := trodVars_none hV
  have k0 := h0
  have lt0 : ∀ x ∈ p0, x.block < W.heap.size := by obtain ⟨m, hm⟩ := k0; exact DataW.trod_lt m _ _ _ hm
  obtain ⟨a0, len0, cap0, rfl⟩ := okWide_slice Try.underlying22 (hval 0 22 v0 rfl rfl)
  obtain ⟨l0, hl0, hm0, hq0, hx0, hu0, hd0⟩ : ∃ l : List (Sh.Fd), l.length = len0 ∧ len0 ≤ maxLen ∧ (len0 ≤ cap0 ∧ cap0 ≤ maxLen ∧ (a0 = none → cap0 = 0)) ∧ (∀ x ∈ l, fdOk x) ∧ Fds W W.heap.size a0 l ∧ (d0 = .nil ∧ len0 = 0 ∨ ∃ (ds : List (DataW H)) (r : List (DataW H)), ds.length = len0 ∧ d0 = .slice ds r) := by
    obtain ⟨fuel, hf⟩ := h0
    exact open_fds Try.underlying22 hf
  have hb0 := bulk_sl hd0
  subst hl0
  have k1 := h1
  have lt1 : ∀ x ∈ p1, x.block < W.heap.size := by obtain ⟨m, hm⟩ := k1; exact DataW.trod_lt m _ _ _ hm
  obtain ⟨a1, len1, cap1, rfl⟩ := okWide_slice Try.underlying27 (hval 1 27 v1 rfl rfl)
  obtain ⟨l1, hl1, hm1, hq1, hu1, hd1, hz1⟩ : ∃ l : List (List Sh.Lv), l.length = len1 ∧ len1 ≤ maxLen ∧ (len1 ≤ cap1 ∧ cap1 ≤ maxLen ∧ (a1 = none → cap1 = 0)) ∧ LRows W W.heap.size a1 l ∧ (d1 = .nil ∧ len1 = 0 ∨ ∃ (ds : List (DataW H)) (r : List (DataW H)), ds.length = len1 ∧ d1 = .slice ds r) ∧ Sh.lsum l ≤ Rows.uptoBulk d1 := by
    obtain ⟨fuel, hf⟩ := h1
    exact open_lrows2 Try.underlying27 hf
  have hb1 := bulk_sl hd1
  subst hl1
  clear hA0 hval
  have hbk := bulk_of hk
  simp only [List.append_nil, Rows.uptoBulkAll] at hbk
  have hbd : l0.length + l1.length ≤ 1048576 := by omega
  refine (shredJoins_walk W a0 cap0 l0 hm0 hq0 hx0 hu0 a1 cap1 l1 hm1 hq1 hu1 (by omega) hbd).mono fun e W' ⟨he, bel⟩ => ?_
  subst he
  exact ⟨_, rfl, _, _, _, [], _, [], hW', trodAll_mk1 (shut_bool Try.underlying4 _), (trodAll_cons_mk (Below.trod laid_out (by kernel_rfl) (of_decide_eq_true (by kernel_rfl)) k0 bel lt0) (trodAll_cons_mk (Below.trod laid_out (by kernel_rfl) (of_decide_eq_true (by kernel_rfl)) k1 bel lt1) trodAll_mk0)), rfl, bel.frame _, fun h => by cases h⟩

set_option maxRecDepth 100000 in
theorem lifted (os : Os) (started : os.Started) (H : Type) (enc : TypeId × Value → H) (F : Stop.Interp) :
    ReturnsInHanded {} Try.checked os 4 .any ((Rows.OpenSpec.upto Rows.shredJoinsSpec).pre6 enc Try.prog Try.f4 Rows.shredJoinsUptoRow.domain false) (((Rows.OpenSpec.upto Rows.shredJoinsSpec).at F).post enc Try.prog Try.f4 false true false false) := by
  refine returnsInHanded_of_cond (C := Try.checked) (s := Rows.OpenSpec.upto Rows.shredJoinsSpec) (k := Rows.uptoSmall) rfl own_knob started (by kernel_rfl) Try.func4
    (OpenSpec.witness (enc := enc) (C := Try.checked) (s := Rows.OpenSpec.upto Rows.shredJoinsSpec) (k := Rows.uptoSmall) rfl false ⟨#[], #[.slice none 0 0, .slice none 0 0], []⟩ 8 (by kernel_rfl) (by kernel_rfl) (by kernel_rfl)
      (x := ([.nil, .nil], [], [])) (by kernel_rfl) rfl (by kernel_rfl)) ?_
  intro W base args ds gs before hval hW _ hk _
  exact contract H enc W base args ds gs before hval hW hk

theorem over : Rows.shredJoinsUptoRow.holds Try.pinned (Rows.OpenSpec.upto Rows.shredJoinsSpec) :=
  OpenClaim.holds_of_cond 4 Try.f4 rfl rfl rfl rfl rfl rfl rfl ⟨rfl, rfl, rfl, rfl, rfl⟩ rfl rfl rfl rfl rfl (by kernel_rfl) Try.func4 (by kernel_rfl)
    (of_decide_eq_true (by kernel_rfl)) (by unfold Func.isWrapper; first | (rw [if_pos (by decide +kernel)]; kernel_rfl) | (rw [if_neg (by decide +kernel)]; exact ⟨rfl, rfl⟩))
    (fun os started H enc _ F => lifted os started H enc F)

theorem proved : Rows.ShredJoinsUptoSaid :=
  over
#print axioms proved
end Go.Proofs.Ytjfkoledbegpfaa.shredJoinsUpto
