/- The walks of hybrid.each, hybrid.Write. -/
import Derived.Test.YtpjmpbpbfjemdaaHW5
import Derived.Test.YtpjmpbpbfjemdaaHPlain2
namespace Go.Proofs.Ytpjmpbpbfjemdaa
open Go.RowKit
set_option linter.unusedVariables false

theorem Nums.cutIf {w : World} {B' b off c k : Nat} {l : List Nat} (h : Nums w B' (some ⟨b, off, none⟩) l) (hl : l.length ≤ c) : Nums w B' (if c = k then some ⟨b, off, none⟩ else some ⟨b, off + k, none⟩) (l.drop k) := by
  by_cases hk : c = k
  · rw [if_pos hk, List.drop_eq_nil_of_le (by omega)]; exact Nums.nil _ _ _
  · rw [if_neg hk]; exact h.drop k

def lenS : Value → Nat
  | .slice _ n _ => n
  | _ => 0

set_option maxHeartbeats 4000000 in
set_option maxRecDepth 100000 in
theorem heach_any (base Bk Bw wide : Nat) (a : Option Addr) (c : Nat) (l : List Nat) (w : World) (hx : ∀ x ∈ l, x < 2 ^ wide) (hw : wide ≤ 64) (hl : l.length ≤ 64) (hcap : l.length ≤ c) (hcm : c ≤ maxLen) (hu : Nums w base a l) (ho : OwnS base Bk w []) (hbw : Boxed w Bw 3 (.int .i64 wide)) :
    Calls Try.prog 63 #[.slice a l.length c, .func (.func 64) #[] #[.pointer (some ⟨Bk, 0, none⟩), .pointer (some ⟨Bw, 0, none⟩)]] w
      fun e w' => e = .returned (.tuple #[]) ∧ OwnS base Bk w' (H.bytes wide l) ∧ Below base w w' := by
  unfold maxLen at hcm
  have hbd := H.bytes_bound wide l hl
  have hmw : l.length * wide ≤ 64 * 64 := Nat.mul_le_mul hl hw
  have HLEN := Lib.hid (show (H.bytes wide l).length ≤ 1048576 by omega)
  have HU := Lib.hid hu
  have HX := Lib.hid hx
  clear hbd hmw hu hx
  go_enter Try.func63, Try.ntmps63
  go_wp2_with fail
  go_loopw [0, 4, 5] (fun s _ _ wr => ∃ (k : Nat) (a' : Option Addr) (c' : Nat) (cur : List UInt8), k ≤ l.length ∧ s = .slice a' (l.length - k) c' ∧ l.length - k ≤ c' ∧ c' ≤ 9223372036854775807 ∧ Hid (Nums w base a' (l.drop k)) ∧ Hid (cur ++ H.bytes wide (l.drop k) = H.bytes wide l) ∧ OwnS base Bk wr cur ∧ Boxed wr Bw 3 (.int .i64 wide) ∧ Below base w wr) (fun s _ _ _ => lenS s)
  case atStart => exact ⟨0, a, c, [], by omega, rfl, by omega, by omega, Lib.hid (by simpa using HU.out), Lib.hid (by simp), ho, hbw, Below.refl _ _⟩
  case round =>
    obtain ⟨k, a', c', cur, hk, rfl, hc', hcm', HN, HB, ho2, hbw2, hbl⟩ := hrel
    by_cases hlt : k < l.length
    · have hne : l.drop k ≠ [] := fun e => by have := congrArg List.length e; rw [List.length_drop] at this; simp at this; omega
      obtain ⟨b, off, rfl, hb, hcc⟩ := HN.out hne
      have hnr : Nums wr base (some ⟨b, off, none⟩) (l.drop k) := HN.out.below hbl
      have hnw : Nums wr wr.heap.size (some ⟨b, off, none⟩) (l.drop k) := hnr.mono (by have := lt_of_block ho2.2.choose_spec.1; have := ho2.1; omega)
      have hld : (l.drop k).length = l.length - k := List.length_drop
      have hrow := row_any (some ⟨b, off, none⟩) c' (l.drop k) wr (by rw [hld]; unfold maxLen; omega) _ hnr
      have hloo := loose_any (some ⟨b, off, none⟩) c' (l.drop k) wr (by rw [hld]; omega) hne (by rw [hld]; omega) (by unfold maxLen; omega) _ hnr
      have hc0 := hcc 0 (by rw [hld]; omega)
      have hhd : (l.drop k).getD 0 0 = (l.drop k).headD 0 := by cases l.drop k <;> rfl
      rw [hhd, Nat.add_zero] at hc0
      have hc0' := (hbl.cell (p := ⟨b, off, none⟩) hb).trans hc0
      have hmem : (l.drop k).headD 0 ∈ l := by rw [← hhd]; exact List.mem_of_mem_drop (getD_mem _ 0 (by rw [hld]; omega))
      have hxk := HX.out _ hmem
      have hcl : cur.length ≤ 1048576 := by have := HLEN.out; rw [← HB.out, List.length_append] at this; omega
      have hr1 := H.row_pos _ hne
      have hr2 := H.row_le (l.drop k)
      rw [hld] at hrow hloo hr2
      have HRUN := Lib.hid (fun h8 => H.bytes_run wide (l.drop k) hne h8)
      have HBLK := Lib.hid (fun h8 => H.bytes_blk wide (l.drop k) hne h8)
      have hl1 := fun h8 => H.loose_pos (l.drop k) (fun e => e.elim hne h8)
      have hl2 := H.loose_le (l.drop k)
      rw [hld] at hl2
      have HLP := Lib.hid hl1
      have HDD := Lib.hid (fun j => (List.drop_drop (i := j) (j := k) (l := l)))
      have HCUT := Lib.hid (fun j => Nums.cutIf (k := j) (HN.out) (show (l.drop k).length ≤ c' by rw [hld]; exact hc'))
      have HCB := Lib.hid (fun (m : Nat) (h1 : 1 ≤ m) (h2 : m ≤ l.length - k) => show Calls Try.prog 64 #[.iface 85 (.slice (some ⟨b, off, none⟩) m c'), .pointer (some ⟨Bk, 0, none⟩), .pointer (some ⟨Bw, 0, none⟩)] wr
        (fun e w' => e = .returned (.tuple #[]) ∧ OwnS base Bk w' (cur ++ H.Part.bytes wide (.blk ((l.drop k).take m))) ∧ Boxed w' Bw 3 (.int .i64 wide) ∧ Below base wr w') by
          have hlt : ((l.drop k).take m).length = m := by rw [List.length_take, hld]; omega
          have := hclos_blk base Bk Bw wide (some ⟨b, off, none⟩) c' ((l.drop k).take m) cur wr (fun x hx => HX.out x (List.mem_of_mem_drop (List.mem_of_mem_take hx))) (fun e => by rw [e] at hlt; simp at hlt; omega) (by rw [hlt]; omega) (hnw.take m) hw ho2 hbw2 hcl
          rw [hlt] at this
          exact this)
      generalize H.row (l.drop k) = r at *
      generalize H.loose (l.drop k) = lo at *
      generalize (l.drop k).headD 0 = x at *
      have HROW := Lib.hid hrow
      have HLOO := Lib.hid hloo
      have HCR := Lib.hid (hclos_run base Bk Bw wide x r cur wr hxk (by omega) hw ho2 hbw2 hcl)
      clear hrow hloo hnr hnw hcc hne hmem hhd hc0
      have hrc : (r : Int) ≤ ((l.length - k : Nat) : Int) := by omega
      by_cases h8 : 8 ≤ r
      · have g1 : decide ((r : Int) < 8) = false := by simp; omega
        go_wp2_with fail
        refine (HROW.out).mono ?_
        rintro e w1 ⟨rfl, rfl⟩
        go_wp2_with fail
        refine (HCR.out).mono ?_
        rintro e w2 ⟨rfl, ho3, hbw3, hb3⟩
        go_wp2_with fail
        refine ⟨⟨k + r, _, c' - r, _, by omega, by rw [Nat.sub_sub], by omega, by omega, Lib.hid ?_, Lib.hid ?_, ho3, hbw3, hbl.trans hb3⟩, by simp [lenS]; omega⟩
        · rw [← HDD.out]; exact HCUT.out r
        · rw [← HDD.out, List.append_assoc, ← HRUN.out h8]; exact HB.out
      · have g1 : decide ((r : Int) < 8) = true := by simp; omega
        have hlo1 := HLP.out h8
        have hlc : (lo : Int) ≤ ((l.length - k : Nat) : Int) := by omega
        have HCL := Lib.hid (HCB.out lo hlo1 hl2)
        go_wp2_with fail
        refine (HROW.out).mono ?_
        rintro e w1 ⟨rfl, rfl⟩
        go_wp2_with fail
        refine (HLOO.out).mono ?_
        rintro e w1 ⟨rfl, rfl⟩
        go_wp2_with fail
        refine (HCL.out).mono ?_
        rintro e w2 ⟨rfl, ho3, hbw3, hb3⟩
        go_wp2_with fail
        refine ⟨⟨k + lo, _, c' - lo, _, by omega, by rw [Nat.sub_sub], by omega, by omega, Lib.hid ?_, Lib.hid ?_, ho3, hbw3, hbl.trans hb3⟩, by simp [lenS]; omega⟩
        · rw [← HDD.out]; exact HCUT.out lo
        · rw [← HDD.out, List.append_assoc, ← HBLK.out h8]; exact HB.out
    · obtain rfl : k = l.length := by omega
      have hB := HB.out
      rw [List.drop_length, H.bytes_nil, List.append_nil] at hB
      subst hB
      go_wp2_with fail
      go_end0
      exact ⟨rfl, ho2, hbl⟩
end Go.Proofs.Ytpjmpbpbfjemdaa
