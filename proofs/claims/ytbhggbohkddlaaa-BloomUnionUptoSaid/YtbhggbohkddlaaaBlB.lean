/- The walks of cText, bloomBegun. -/
import Derived.Test.YtbhggbohkddlaaaBlW5
import Derived.Test.YtbhggbohkddlaaaBlW6
import Derived.Test.YtbhggbohkddlaaaBlR1
import Derived.Test.YtbhggbohkddlaaaCCells
namespace Go.Proofs.Ytbhggbohkddlaaa
open Go.RowKit
set_option linter.unusedVariables false

set_option maxHeartbeats 1000000 in
set_option maxRecDepth 100000 in
theorem ctext_any (s : ByteArray) (w : World) : Calls Try.prog 17 #[.string s] w (CellPost (.agg #[.int .i64 2, .int .u64 0, .string s]) w) := by
  have q0 := tri_new w (.int .i64 0) (.int .u64 0) (.string ByteArray.empty)
  go_enter Try.func17, Try.ntmps17
  go_wp2_with fail
  refine bodyPost_ret (v := .agg #[.int .i64 2, .int .u64 0, .string s]) (by simp [results, Try.results17, go_sem]) rfl ⟨rfl, ?_⟩
  exact (Below.refl _ _).alloc (Nat.le_refl _) _

def rook : C.Cl := ⟨2, 0, [114, 111, 111, 107]⟩
theorem rook_ok : cOk rook := by unfold cOk rook; simp [maxLen]
theorem null_ok : cOk C.null := cOk_null
theorem none_may (c : C.Cl) : Bl.may Bl.none_ c = false := by
  unfold Bl.may Bl.has Bl.none_
  simp
theorem one_may (c : C.Cl) : Bl.may (Bl.fil Bl.none_ [c]) c = true := Bl.may_here Bl.none_ c
theorem one_ne (c : C.Cl) : ¬ (Bl.fil Bl.none_ [c] 0 = Bl.none_ 0 ∧ Bl.fil Bl.none_ [c] 1 = Bl.none_ 1 ∧ Bl.fil Bl.none_ [c] 2 = Bl.none_ 2 ∧ Bl.fil Bl.none_ [c] 3 = Bl.none_ 3) := by
  intro h
  have e := (four_iff _ _).1 h
  have h1 := one_may c
  have h2 := none_may c
  rw [show Bl.may (Bl.fil Bl.none_ [c]) c = Bl.may Bl.none_ c by
    unfold Bl.may
    rw [Bl.ext4 e (Bl.m0 (Bl.hash c)) (Nat.mod_lt _ (by omega)), Bl.ext4 e (Bl.m1 (Bl.hash c)) (Nat.mod_lt _ (by omega)), Bl.ext4 e (Bl.m2 (Bl.hash c)) (Nat.mod_lt _ (by omega))], h2] at h1
  exact absurd h1 (by decide)

theorem fil_neq (w : World) (a b c d a' b' c' d' : Nat) : (binOp .neq 23 (.agg #[.int .u64 (a : Int), .int .u64 (b : Int), .int .u64 (c : Int), .int .u64 (d : Int)]) (.agg #[.int .u64 (a' : Int), .int .u64 (b' : Int), .int .u64 (c' : Int), .int .u64 (d' : Int)])).run Try.prog w = .ok (.bool (!decide (a = a' ∧ b = b' ∧ c = c' ∧ d = d'))) w := by
  have h := fil_eql w a b c d a' b' c' d'
  rw [run_eql_struct] at h
  rw [run_neq_struct]
  generalize (Op.equalIn 10000 23 (.agg #[.int .u64 (a : Int), .int .u64 (b : Int), .int .u64 (c : Int), .int .u64 (d : Int)]) (.agg #[.int .u64 (a' : Int), .int .u64 (b' : Int), .int .u64 (c' : Int), .int .u64 (d' : Int)])).run Try.prog w = r at *
  cases r with
  | ok b w' =>
    simp only [Result.andThen_ok] at h ⊢
    injection h with h1 h2
    injection h1 with h1
    rw [h1, h2]
  | halt h w' => simp [Result.andThen] at h

theorem none_zero (W : World) : Calls Try.prog 18 #[] W fun e w' => e = .returned (.agg #[.int .u64 0, .int .u64 0, .int .u64 0, .int .u64 0]) ∧ Below W.heap.size W w' := none_any W
theorem eq_zero (w : World) : (binOp .eql 23 (.agg #[.int .u64 0, .int .u64 0, .int .u64 0, .int .u64 0]) (.agg #[.int .u64 0, .int .u64 0, .int .u64 0, .int .u64 0])).run Try.prog w = .ok (.bool true) w := fil_eql w 0 0 0 0 0 0 0 0
theorem neq_zero (X : Bl.F) (h : ¬ (X 0 = Bl.none_ 0 ∧ X 1 = Bl.none_ 1 ∧ X 2 = Bl.none_ 2 ∧ X 3 = Bl.none_ 3)) (w : World) :
    (binOp .neq 23 (.agg #[.int .u64 (X 0 : Nat), .int .u64 (X 1 : Nat), .int .u64 (X 2 : Nat), .int .u64 (X 3 : Nat)]) (.agg #[.int .u64 0, .int .u64 0, .int .u64 0, .int .u64 0])).run Try.prog w = .ok (.bool true) w := by
  have e := fil_neq w (X 0) (X 1) (X 2) (X 3) 0 0 0 0
  rw [decide_eq_false (show ¬ (X 0 = 0 ∧ X 1 = 0 ∧ X 2 = 0 ∧ X 3 = 0) from h)] at e
  exact e
theorem rook_clit (w : World) : Cls (w.alloc (.cells #[.int .i64 2, .int .u64 0, .string ⟨#[114, 111, 111, 107]⟩] 26)) (w.alloc (.cells #[.int .i64 2, .int .u64 0, .string ⟨#[114, 111, 111, 107]⟩] 26)).heap.size (some ⟨w.heap.size, 0, none⟩) [rook] := cls_lit w [rook]

set_option maxHeartbeats 4000000 in
set_option maxRecDepth 100000 in
theorem blbegun_any (w : World) : Calls Try.prog 6 #[] w (BoolPost true w) := by
  have HOF := Lib.hid (fun W a (hu : Cls W W.heap.size a [rook]) => of_any a 1 [rook] W (by simp [maxLen]) (by intro x hx; rw [List.mem_singleton.1 hx]; exact rook_ok) hu)
  have hfok : Bl.fOk (Bl.fil Bl.none_ [rook]) := Bl.fil_ok Bl.none_ok _
  have HM1 := Lib.hid (fun W => by
    have := may_any (Bl.fil Bl.none_ [rook]) rook W hfok rook_ok
    rw [one_may] at this; exact this)
  have HM2 := Lib.hid (fun W => show Calls Try.prog 13 #[.agg #[.int .u64 0, .int .u64 0, .int .u64 0, .int .u64 0], .agg #[.int .i64 2, .int .u64 0, .string ⟨#[114, 111, 111, 107]⟩]] W (BoolPost false W) by
    have := may_any Bl.none_ rook W Bl.none_ok rook_ok
    rw [none_may] at this; exact this)
  have hne := neq_zero (Bl.fil Bl.none_ [rook]) (one_ne rook)
  have heq := eq_zero
  have hgd := guards_fil .eql
  have hgn := guards_fil .neq
  have HH := Lib.hid (fun W => show Calls Try.prog 7 #[.agg #[.int .i64 0, .int .u64 0, .string ⟨#[]⟩]] W (HashPost (Bl.hash C.null) W) from hash_any C.null W cOk_null)
  have HHO := Lib.hid (fun W => show Calls Try.prog 8 #[.agg #[.int .i64 0, .int .u64 0, .string ⟨#[]⟩]] W (HashPost (Bl.hash C.null) W) from hashOf_any C.null W cOk_null (by simp [C.null, maxLen]))
  generalize Bl.hash C.null = h at *
  clear hfok
  obtain ⟨X, hX⟩ : ∃ X, X = Bl.fil Bl.none_ [rook] := ⟨_, rfl⟩
  rw [← hX] at HOF HM1 hne
  clear hX
  have HM1 := Lib.hid (fun W => show Calls Try.prog 13 #[.agg #[.int .u64 (X 0 : Nat), .int .u64 (X 1 : Nat), .int .u64 (X 2 : Nat), .int .u64 (X 3 : Nat)], .agg #[.int .i64 2, .int .u64 0, .string ⟨#[114, 111, 111, 107]⟩]] W (BoolPost true W) from HM1.out W)
  have HHE := Lib.hid (show ((h : Int) == (h : Int)) = true by simp)
  go_enter Try.func6, Try.ntmps6
  go_wp2_with fail
  refine (ctext_any _ _).mono ?_
  rintro e w1 ⟨rfl, hb1⟩
  go_wp2_with fail
  refine (ccells_any _ _).mono ?_
  rintro e w2 ⟨rfl, hb2⟩
  rw [← hb2]
  clear hb2
  go_wp2_with fail
  refine (HOF.out _ _ (rook_clit _)).mono ?_
  rintro e w3 ⟨rfl, hb3⟩
  have h3 := below_then (hb1.alloc hb1.size _) hb3
  clear hb1 hb3
  go_wp2_with fail
  have q0 := quad_new w3 X
  have h4 := h3.alloc h3.size (.cells (qv X) 23)
  unfold qv at q0 h4
  generalize w3.alloc (.cells #[.int .u64 (X 0 : Nat), .int .u64 (X 1 : Nat), .int .u64 (X 2 : Nat), .int .u64 (X 3 : Nat)] 23) = W at *
  have hq := q0.lt
  obtain ⟨a0, a1, a2, a3⟩ := q0.all
  have f0 : ∀ p : WB W, p.w.cell? ⟨w3.heap.size, 0, none⟩ = some (.int .u64 (X 0 : Nat)) := fun p => p.cell hq a0
  have f1 : ∀ p : WB W, p.w.cell? ⟨w3.heap.size, 1, none⟩ = some (.int .u64 (X 1 : Nat)) := fun p => p.cell hq a1
  have f2 : ∀ p : WB W, p.w.cell? ⟨w3.heap.size, 2, none⟩ = some (.int .u64 (X 2 : Nat)) := fun p => p.cell hq a2
  have f3 : ∀ p : WB W, p.w.cell? ⟨w3.heap.size, 3, none⟩ = some (.int .u64 (X 3 : Nat)) := fun p => p.cell hq a3
  clear a0 a1 a2 a3 hq q0 h3
  refine wp_region_wbh (by kernel_rfl) (by kernel_rfl) ?_
  iterate 7 (refine wq_step (fun K hK => ?_); go_simp; first | (refine hK _ ?_; clear hK K) | (apply Exists.intro; refine ⟨fun _ => ?_, hK _ ?_⟩; (first | (go_at_call 18; exact calls_wb (none_zero _)) | (go_at_call 17; exact calls_wb (ctext_any _ _)) | (go_at_call 13; exact calls_wb (HM1.out _))); clear hK K))
  iterate 20 (refine wq_step (fun K hK => ?_); go_simp; first | (refine hK _ ?_; clear hK K) | (apply Exists.intro; refine ⟨fun _ => ?_, hK _ ?_⟩; (first | (go_at_call 18; exact calls_wb (none_zero _)) | (go_at_call 17; exact calls_wb (ctext_any _ _)) | (go_at_call 13; exact calls_wb (HM2.out _)) | (go_at_call 7; exact calls_wb (HH.out _)) | (go_at_call 8; exact calls_wb (HHO.out _))); clear hK K))
  refine wq_nil ?_
  rintro _ ⟨p, rfl⟩
  have hp := below_then h4 p.below
  go_wp2_with fail
  go_ret
  exact ⟨rfl, hp⟩
end Go.Proofs.Ytbhggbohkddlaaa
