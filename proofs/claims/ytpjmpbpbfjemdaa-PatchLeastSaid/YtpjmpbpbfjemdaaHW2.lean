/- The walk of (run).bytes. -/
import Derived.Test.YtpjmpbpbfjemdaaHW1
import Derived.Deep.DrawnRows
namespace Go.Proofs.Ytpjmpbpbfjemdaa
open Go.RowKit
set_option linter.unusedVariables false
attribute [local go_sem ↓] Go.wp_at_zero Go.wp_at_succ

theorem one_nums {W : World} {g n : Nat} (hc : W.cell? ⟨g, 0, none⟩ = some (.int .u64 (n : Int))) : Nums W W.heap.size (some ⟨g, 0, none⟩) [n] := by
  intro _
  refine ⟨g, 0, rfl, World.block_lt_of_cell? W _ hc, fun i hi => ?_⟩
  have : i = 0 := by simpa using hi
  subst this
  simpa using hc

abbrev KB (bx : Nat) (a b : Value) (w W : World) : Prop := W.cell? ⟨bx, 0, none⟩ = some a ∧ W.cell? ⟨bx, 1, none⟩ = some b ∧ Below bx w W
theorem kb_drew {W w : World} {bx : Nat} {a b : Value} (h : KB bx a b w W) : KB bx a b w W.drew := ⟨h.1, h.2.1, h.2.2.drew⟩
theorem kb_below {W w W' : World} {bx : Nat} {a b : Value} (hk : Below W.heap.size W W') (h : KB bx a b w W) : KB bx a b w W' :=
  have hl := World.block_lt_of_cell? W _ h.1
  ⟨(hk.cell (p := ⟨bx, 0, none⟩) hl).trans h.1, (hk.cell (p := ⟨bx, 1, none⟩) hl).trans h.2.1, h.2.2.trans (hk.mono (Nat.le_of_lt hl))⟩
theorem kb_alloc {W w : World} {bx : Nat} {a b : Value} (o : Obj) (h : KB bx a b w W) : KB bx a b w (W.alloc o) := kb_below ((Below.refl _ _).alloc (Nat.le_refl _) o) h

set_option maxHeartbeats 1000000 in
set_option maxRecDepth 100000 in
theorem rbytes_any (n m wide : Nat) (w : World) (hn : n < 2 ^ wide) (hm : m ≤ 64) (hw : wide ≤ 64) :
    Calls Try.prog 110 #[.agg #[.int .u64 n, .int .i64 m], .int .i64 wide] w (TextPost (H.Part.bytes wide (.run n m)) w) := by
  have hmw : IntKind.u64.wrap (m : Int) = (m : Int) := by rw [IntKind.wrap_u64]; omega
  have hmul : IntKind.u64.wrap (2 * (m : Int)) = ((2 * m : Nat) : Int) := by rw [IntKind.wrap_u64]; omega
  obtain ⟨t1, ht1⟩ : ∃ t1, t1 = str (V.enc (2 * m)) := ⟨_, rfl⟩
  obtain ⟨t2, ht2⟩ : ∃ t2, t2 = str (H.pkd wide [n]) := ⟨_, rfl⟩
  have HWR := Lib.hid (fun W => show Calls Try.prog 42 #[.int .u64 ((2 * m : Nat) : Int)] W (fun e w' => e = .returned (.string t1) ∧ Below W.heap.size W w') by rw [ht1]; exact write_any (2 * m) W (by omega))
  have HPK := Lib.hid (fun (W : World) g c (hc : W.cell? ⟨g, 0, none⟩ = some (.int .u64 (n : Int))) => show Calls Try.prog 112 #[.slice (some ⟨g, 0, none⟩) 1 c, .int .i64 wide] W (fun e w' => e = .returned (.string t2) ∧ Below W.heap.size W w') by
    rw [ht2]; exact packed'_any (some ⟨g, 0, none⟩) c [n] wide W (by simpa using hn) hw (by simp) (one_nums hc))
  have h1 : t1.size ≤ 9 := by rw [ht1, str_size, V.enc_length]; exact V.sz_le _
  have h2 : t2.size ≤ 64 := by rw [ht2, str_size, H.pkd_length]; unfold B.sz; simp; omega
  have hcat : ¬ 9223372036854775807 < t1.size + t2.size := by omega
  have HSUM := Lib.hid (show t1 ++ t2 = str (H.Part.bytes wide (.run n m)) by rw [ht1, ht2, str_append]; rfl)
  clear ht1 ht2
  go_enter Try.func110, Try.ntmps110
  go_wp2_with fail
  have c0 : (w.alloc (.cells #[.int .u64 (n : Int), .int .i64 (m : Int)] 84)).cell? ⟨w.heap.size, 0, none⟩ = some (.int .u64 (n : Int)) := by rw [World.cell?_alloc_new]; rfl
  have c1 : (w.alloc (.cells #[.int .u64 (n : Int), .int .i64 (m : Int)] 84)).cell? ⟨w.heap.size, 1, none⟩ = some (.int .i64 (m : Int)) := by rw [World.cell?_alloc_new]; rfl
  have hb0 : Below w.heap.size w (w.alloc (.cells #[.int .u64 (n : Int), .int .i64 (m : Int)] 84)) := (Below.refl _ _).alloc (Nat.le_refl _) _
  have hlt : w.heap.size < (w.alloc (.cells #[.int .u64 (n : Int), .int .i64 (m : Int)] 84)).heap.size := by simp
  obtain ⟨bx, hbx⟩ : ∃ bx, bx = w.heap.size := ⟨_, rfl⟩
  obtain ⟨W1, hW1⟩ : ∃ W1, W1 = w.alloc (.cells #[.int .u64 (n : Int), .int .i64 (m : Int)] 84) := ⟨_, rfl⟩
  rw [← hW1, ← hbx] at c0 c1 hlt hb0 ⊢
  have HBX := Lib.hid hbx
  clear hW1 hbx
  go_region_held3 (fun W => W.cell? ⟨bx, 0, none⟩ = some (.int .u64 (n : Int)) ∧ W.cell? ⟨bx, 1, none⟩ = some (.int .i64 (m : Int)) ∧ Below bx w W)
    (first
      | (refine kb_drew ?_; first | assumption | (refine ⟨?_, ?_, ?_⟩ <;> assumption))
      | (refine kb_drew (kb_alloc _ ?_); first | assumption | (refine ⟨?_, ?_, ?_⟩ <;> assumption))
      | (refine kb_alloc _ ?_; first | assumption | (refine ⟨?_, ?_, ?_⟩ <;> assumption))
      | (refine kb_below hb3 ?_; first | assumption | (refine ⟨?_, ?_, ?_⟩ <;> assumption))
      | (refine kb_below hb4 ?_; first | assumption | (refine ⟨?_, ?_, ?_⟩ <;> assumption)))
    (first
      | (go_at_call 42; refine (HWR.out _).mono ?_; rintro e w3 ⟨rfl, hb3⟩)
      | (go_at_call 112; refine (HPK.out _ _ _ (by rw [World.cell?_alloc_new]; rfl)).mono ?_; rintro e w4 ⟨rfl, hb4⟩)
      | (go_at_call 112; refine (HPK.out _ _ _ ((hb3.cell (p := ⟨W1.heap.size, 0, none⟩) (by simp)).trans (World.cell?_alloc_new W1 _ _ 0))).mono ?_; rintro e w4 ⟨rfl, hb4⟩))
  all_goals
    go_wp2_with fail
    go_ret
    exact ⟨by rw [← HSUM.out]; rfl, HBX.out ▸ (show KB bx (.int .u64 (n : Int)) (.int .i64 (m : Int)) w w4 by assumption).2.2⟩
end Go.Proofs.Ytpjmpbpbfjemdaa
