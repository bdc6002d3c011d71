/- The walk of column.Check. -/
import Derived.Test.YtnjnalehfhfefaaTbW1
namespace Go.Proofs.Ytnjnalehfhfefaa
open Go.RowKit
set_option linter.unusedVariables false

theorem RowIn.one {w : World} {b off c : Nat} {r : List C.Cl} {B : Nat} (h : RowIn w B (some ⟨b, off, none⟩) c r) {j : Nat} (hj : j < r.length) : RowIn w B (some ⟨b, off + j * 3, none⟩) (c - j) [r.getD j C.null] := by
  have h1 := (h.cls.drop j).take 1
  have e : (r.drop j).take 1 = [r.getD j C.null] := by
    rw [List.drop_eq_getElem_cons hj]
    simp only [List.take_succ_cons, List.take_zero, List.getD, List.getElem?_eq_getElem hj, Option.getD_some]
  rw [e] at h1
  refine ⟨?_, ?_, (fun h => by cases h), ?_, h1⟩
  · have := h.len; simp; omega
  · have := h.cap; omega
  · intro x hx
    rw [List.mem_singleton.1 hx]
    exact h.ok _ (cgetD_mem r j hj)
set_option maxHeartbeats 1000000 in
set_option maxRecDepth 100000 in
theorem colcheck_any (k : Int) (a : Option Addr) (c : Nat) (l : List C.Cl) (w : World) (hr : RowIn w w.heap.size a c l) :
    Calls Try.prog 62 #[.int .i64 k, .slice a l.length c] w (CErrPost (Tb.colE k l) w) := by
  have H0 := Lib.hid (show Calls Try.prog 44 #[.int .i64 k, .slice none 0 0] w (CErrPost (C.chk k []) w) from ncheck_any k none 0 [] w (Nat.zero_le _) (by simp) (Cls.nil _ _ _))
  have hlen := hr.len
  have hcap := hr.cap
  have hlt9 := Tb.chk_nil_lt k
  unfold maxLen at hcap
  unfold Tb.colE
  by_cases h0 : C.chk k [] ≠ 0
  · rw [if_pos h0]
    generalize C.chk k [] = er at *
    have g1 : ((er : Int) != 0) = true := by rw [bne_iff_ne]; omega
    clear hr
    go_enter Try.func62, Try.ntmps62
    go_wp2_with fail
    refine (H0.out).mono ?_
    rintro e w1 ⟨rfl, hb1⟩
    go_wp2_with fail
    go_ret
    exact ⟨rfl, hb1⟩
  rw [if_neg h0]
  rw [show C.chk k [] = 0 by omega] at H0
  by_cases h1 : 128 < l.length
  · rw [if_pos h1]
    have g1 : decide ((128 : Int) < (l.length : Int)) = true := decide_eq_true (by omega)
    clear hr
    go_enter Try.func62, Try.ntmps62
    go_wp2_with fail
    refine (H0.out).mono ?_
    rintro e w1 ⟨rfl, hb1⟩
    go_wp2_with fail
    go_ret
    exact ⟨rfl, hb1⟩
  rw [if_neg h1]
  have g2 : decide ((128 : Int) < (l.length : Int)) = false := decide_eq_false (by omega)
  have HR := Lib.hid hr
  have HHIT := Lib.hid (fun j (h : Tb.NoneYet (fun i => C.chk k [l.getD i C.null]) j) (hj : j < l.length) h0 => h.hit hj h0)
  have HALL := Lib.hid (fun (h : Tb.NoneYet (fun i => C.chk k [l.getD i C.null]) l.length) => h.all)
  have HLT := Lib.hid (fun i => Tb.chk_lt9 k (l.getD i C.null))
  generalize Tb.firstE (fun i => C.chk k [l.getD i C.null]) l.length 0 = R at *
  clear hr h0 hlt9
  go_enter Try.func62, Try.ntmps62
  go_wp2_with fail
  refine (H0.out).mono ?_
  rintro e w1 ⟨rfl, hb1⟩
  go_wp2_with fail
  go_loopw [6, 7, 18] (fun _ _ i wr => ∃ j : Nat, j ≤ l.length ∧ i = .int .i64 j ∧ Below w.heap.size w wr ∧ Hid (Tb.NoneYet (fun i => C.chk k [l.getD i C.null]) j)) (fun _ _ i _ => l.length - (intOf i).toNat)
  case atStart => exact ⟨0, by omega, rfl, hb1, Lib.hid (Tb.NoneYet.zero _)⟩
  case round =>
    obtain ⟨j, hj, rfl, hbw, HJ⟩ := hrel
    by_cases hlt : j < l.length
    · obtain ⟨bb, off, rfl, hbb, hcc⟩ := HR.out.cls (fun e => by rw [e] at hlt; simp at hlt)
      have hone := (HR.out.next hbw).one hlt
      have hcall := ncheck_any k _ (c - j) [l.getD j C.null] wr hone.max hone.ok hone.cls
      have hh := HHIT.out j HJ.out hlt
      have hn := fun h => Lib.hid (HJ.out.succ (f := fun i => C.chk k [l.getD i C.null]) (j := j) h)
      have hl9 := HLT.out j
      generalize C.chk k [l.getD j C.null] = er at *
      have HCX := Lib.hid (show Calls Try.prog 44 #[.int .i64 k, .slice (some ⟨bb, off + j * 3, none⟩) 1 (c - j)] wr (CErrPost er wr) from hcall)
      have hjI : (j : Int) < (l.length : Int) := by omega
      have q1 : (if c = j then (some ⟨bb, off, none⟩ : Option Addr) else some ⟨bb, off + j * 3, none⟩) = some ⟨bb, off + j * 3, none⟩ := if_neg (by omega)
      clear hcc hcall hone
      by_cases ho : er ≠ 0
      · have HF := Lib.hid (hh ho)
        have g3 : ((er : Int) != 0) = true := by rw [bne_iff_ne]; omega
        clear hh hn
        go_wp2_with fail
        refine (HCX.out).mono ?_
        rintro e w2 ⟨rfl, hb2⟩
        go_wp2_with fail
        go_ret
        exact ⟨by rw [HF.out]; rfl, below_then hbw hb2⟩
      · obtain rfl : er = 0 := by omega
        have HN := hn rfl
        clear hh hn
        go_wp2_with fail
        refine (HCX.out).mono ?_
        rintro e w2 ⟨rfl, hb2⟩
        go_wp2_with fail
        exact ⟨⟨j + 1, by omega, by go_num, below_then hbw hb2, HN⟩, by simp [intOf]; omega⟩
    · obtain rfl : j = l.length := by omega
      have HF := Lib.hid (HALL.out HJ.out)
      go_wp2_with fail
      go_ret
      exact ⟨by rw [HF.out]; rfl, hbw⟩
end Go.Proofs.Ytnjnalehfhfefaa
