/- The walk of hybrid.Write. -/
import Derived.Test.YtpjmpbpbfjemdaaHW6
namespace Go.Proofs.Ytpjmpbpbfjemdaa
open Go.RowKit
set_option linter.unusedVariables false

def hwriteR (l : List Nat) (wide : Int) : List UInt8 × Nat := if (packR l wide).2 ≠ 0 then ([], (packR l wide).2) else (H.bytes wide.toNat l, 0)

theorem owns_text {base Bk : Nat} {w : World} {xs : List UInt8} (h : OwnS base Bk w xs) : ∃ (A : Option Addr) (n c : Nat), w.cell? ⟨Bk, 0, none⟩ = some (.slice A n c) ∧ (convert 50 9 (.slice A n c)).run Try.prog w = .ok (.string (str xs)) w := by
  obtain ⟨h0, v, hv, hown⟩ := h
  have hown' := hown
  rcases hown.2 with ⟨rfl, hz⟩ | ⟨g, cap, cur, rfl, _⟩
  · refine ⟨none, 0, 0, cell_of_one hv, ?_⟩
    obtain rfl : xs = [] := List.eq_nil_of_length_eq_zero hz
    exact run_convert_bytes_nil _ 50 5 Try.underlying50 Try.underlying5 0 0 9 Try.underlying9
  · refine ⟨some ⟨g, 0, none⟩, xs.length, cap, cell_of_one hv, ?_⟩
    rw [← str_of xs]
    refine run_convert_bytes_arg _ 50 5 Try.underlying50 Try.underlying5 _ 0 xs.length cap _ (by simp) ?_ 9 Try.underlying9
    intro i hi
    rw [Nat.zero_add, hown'.cellAt i (by omega)]
    simp [bv, List.getElem?_eq_getElem hi]

set_option maxHeartbeats 400000 in
theorem hwrite_range (a : Option Addr) (c n : Nat) (wide : Int) (w : World) (h : wide < 0 ∨ 64 < wide) :
    Calls Try.prog 41 #[.slice a n c, .int .i64 wide] w (PackPost ([], 3) w) := by
  have c0 : (w.alloc (.cells #[.int .i64 wide] 3)).cell? ⟨w.heap.size, 0, none⟩ = some (.int .i64 wide) := by rw [World.cell?_alloc_new]; rfl
  by_cases h0 : wide < 0
  · have g1 : decide (wide < 0) = true := by simp; omega
    go_enter Try.func41, Try.ntmps41
    go_wp2_with fail
    go_ret2
    exact ⟨rfl, (Below.refl _ _).alloc (Nat.le_refl _) _⟩
  · have g1 : decide (wide < 0) = false := by simp; omega
    have g2 : decide (64 < wide) = true := by simp; omega
    go_enter Try.func41, Try.ntmps41
    go_wp2_with fail
    go_ret2
    exact ⟨rfl, (Below.refl _ _).alloc (Nat.le_refl _) _⟩

set_option maxHeartbeats 400000 in
theorem hwrite_many (a : Option Addr) (c n wide : Nat) (w : World) (h : wide ≤ 64) (hn : 64 < n) :
    Calls Try.prog 41 #[.slice a n c, .int .i64 wide] w (PackPost ([], 2) w) := by
  have g1 : decide ((wide : Int) < 0) = false := by simp
  have g2 : decide ((64 : Int) < (wide : Int)) = false := by simp; omega
  go_enter Try.func41, Try.ntmps41
  go_wp2_with fail
  go_ret2
  exact ⟨rfl, (Below.refl _ _).alloc (Nat.le_refl _) _⟩

set_option maxHeartbeats 1000000 in
theorem hwrite_over (a : Option Addr) (c : Nat) (l : List Nat) (wide : Nat) (w : World) (h : wide ≤ 64) (hn : l.length ≤ 64) (hx : ∀ x ∈ l, x < 18446744073709551616) (hu : Nums w w.heap.size a l) (ho : wide < B.wd l) :
    Calls Try.prog 41 #[.slice a l.length c, .int .i64 wide] w (PackPost ([], 8) w) := by
  have g1 : decide ((wide : Int) < 0) = false := by simp
  have g2 : decide ((64 : Int) < (wide : Int)) = false := by simp; omega
  have HW := Lib.hid (fun w' h => width_any a c l w' w.heap.size (by unfold maxLen; omega) hx h)
  have HU := Lib.hid hu
  have h64 := B.wd_64 l hx
  have hb0 : Below w.heap.size w (w.alloc (.cells #[.int .i64 (wide : Int)] 3)) := (Below.refl _ _).alloc (Nat.le_refl _) _
  have g3 : decide ((wide : Int) < (B.wd l : Int)) = true := by simp; omega
  clear hx hu
  generalize B.wd l = d at *
  go_enter Try.func41, Try.ntmps41
  go_wp2_with fail
  go_quiet ((go_at_call 40; exact Calls.quiet_same (HW.out _ (HU.out.below (below_drewN hb0 _)))))
  go_wp2_with fail
  go_ret2
  exact ⟨rfl, below_drewN hb0 _⟩

set_option maxHeartbeats 1000000 in
set_option maxRecDepth 100000 in
theorem hwrite_ok (a : Option Addr) (c : Nat) (l : List Nat) (wide : Nat) (w : World) (h : wide ≤ 64) (hn : l.length ≤ 64) (hcap : l.length ≤ c) (hcm : c ≤ maxLen) (hx : ∀ x ∈ l, x < 18446744073709551616) (hu : Nums w w.heap.size a l) (ho : B.wd l ≤ wide) :
    Calls Try.prog 41 #[.slice a l.length c, .int .i64 wide] w (PackPost (H.bytes wide l, 0) w) := by
  have hmf : ∀ (fn : Fn) (first cap : Array Value) (w : World), (Instr.makeFunc fn first cap).run Try.prog w = .ok (.func fn first cap) w := fun _ _ _ _ => rfl
  have g1 : decide ((wide : Int) < 0) = false := by simp
  have g2 : decide ((64 : Int) < (wide : Int)) = false := by simp; omega
  have HW := Lib.hid (fun w' h => width_any a c l w' w.heap.size (by unfold maxLen; omega) hx h)
  have hb0 : Below w.heap.size w (w.alloc (.cells #[.int .i64 (wide : Int)] 3)) := (Below.refl _ _).alloc (Nat.le_refl _) _
  have g3 : decide ((wide : Int) < (B.wd l : Int)) = false := by simp; omega
  have hxw := (B.wd_le l wide).1 ho
  have HE := Lib.hid (fun (W : World) Bk Bw (hb : Below w.heap.size w W) (ho : OwnS w.heap.size Bk W []) (hbw : Boxed W Bw 3 (.int .i64 wide)) => heach_any w.heap.size Bk Bw wide a c l W hxw h hn hcap hcm (hu.below hb) ho hbw)
  have HU := Lib.hid hu
  generalize H.bytes wide l = out at *
  clear hx hu hxw
  generalize B.wd l = d at *
  go_enter Try.func41, Try.ntmps41
  go_wp2_with fail
  go_quiet ((go_at_call 40; exact Calls.quiet_same (HW.out _ (HU.out.below (below_drewN hb0 _)))))
  obtain ⟨W1, hW1⟩ : ∃ W1, W1 = w.alloc (.cells #[.int .i64 (wide : Int)] 3) := ⟨_, rfl⟩
  have hbox : Boxed W1 w.heap.size 3 (.int .i64 wide) := by rw [hW1]; exact Boxed.new _ _ _
  rw [← hW1] at hb0 ⊢
  clear hW1
  go_wp2_with fail
  have hsz : w.heap.size ≤ (W1.drewN nq).heap.size := (below_drewN hb0 nq).size
  have hb1 : Below w.heap.size w ((W1.drewN nq).alloc (.cells #[.slice none 0 0] 50)) := (below_drewN hb0 nq).alloc hsz _
  have hbox1 : Boxed ((W1.drewN nq).alloc (.cells #[.slice none 0 0] 50)) w.heap.size 3 (.int .i64 wide) := (show Boxed (W1.drewN nq) w.heap.size 3 (.int .i64 wide) from hbox).alloc _
  have ho1 : OwnS w.heap.size (W1.drewN nq).heap.size ((W1.drewN nq).alloc (.cells #[.slice none 0 0] 50)) [] := ⟨hsz, _, heap_alloc_new _ _, World.ownsRow_nil _ _ _ _⟩
  refine (HE.out _ _ _ ?h1 ?h2 ?h3).mono ?_
  case h1 => exact hb1
  case h2 => exact ho1
  case h3 => exact hbox1
  rintro e w2 ⟨rfl, ho2, hb2⟩
  obtain ⟨A, n', c', hcell, hconv⟩ := owns_text ho2
  go_wp2_with fail
  go_ret2
  exact ⟨rfl, hb1.trans hb2⟩

theorem hwrite_any (a : Option Addr) (c : Nat) (l : List Nat) (wide : Int) (w : World) (hcap : l.length ≤ c) (hcm : c ≤ maxLen) (hx : ∀ x ∈ l, x < 18446744073709551616) (hu : Nums w w.heap.size a l) :
    Calls Try.prog 41 #[.slice a l.length c, .int .i64 wide] w (PackPost (hwriteR l wide) w) := by
  by_cases h0 : wide < 0 ∨ 64 < wide
  · have e : hwriteR l wide = ([], 3) := by unfold hwriteR packR; rw [if_pos h0]; rfl
    rw [e]; exact hwrite_range a c _ wide w h0
  obtain ⟨n, rfl⟩ : ∃ n : Nat, wide = n := ⟨wide.toNat, by omega⟩
  by_cases h1 : 64 < l.length
  · have e : hwriteR l n = ([], 2) := by unfold hwriteR packR; rw [if_neg h0, if_pos h1]; rfl
    rw [e]; exact hwrite_many a c _ n w (by omega) h1
  by_cases h2 : n < B.wd l
  · have e : hwriteR l n = ([], 8) := by unfold hwriteR packR; rw [if_neg h0, if_neg h1, Int.toNat_natCast, if_pos h2]; rfl
    rw [e]; exact hwrite_over a c l n w (by omega) (by omega) hx hu h2
  · have e : hwriteR l n = (H.bytes n l, 0) := by unfold hwriteR packR; rw [if_neg h0, if_neg h1, Int.toNat_natCast, if_neg h2]; rfl
    rw [e]; exact hwrite_ok a c l n w (by omega) (by omega) hcap hcm hx hu (by omega)
end Go.Proofs.Ytpjmpbpbfjemdaa
