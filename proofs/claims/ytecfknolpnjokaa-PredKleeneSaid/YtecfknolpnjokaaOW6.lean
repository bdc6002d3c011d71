/- The walk of pred.Ask. -/
import Derived.Test.YtecfknolpnjokaaOW4
import Derived.Test.YtecfknolpnjokaaOPlain2
namespace Go.Proofs.Ytecfknolpnjokaa
open Go.RowKit
set_option linter.unusedVariables false

def IEPost (r : Nat × Nat) (w : World) (e : Ending) (w' : World) : Prop := e = .returned (.tuple #[.int .i64 (r.1 : Nat), .int .i64 (r.2 : Nat)]) ∧ Below w.heap.size w w'
theorem firE_shift (e : Nat → Nat) : ∀ (k j : Nat), firE e (j + 1) k = firE (fun i => e (i + 1)) j k
  | 0, _ => rfl
  | k + 1, j => by rw [firE, firE, firE_shift e k (j + 1)]
theorem firE_row : ∀ (ks : List Int) (row : List C.Cl), row.length = ks.length → firE (fun j => oneE (ks.getD j 0) (row.getD j C.null)) 0 ks.length = O.rowE ks row
  | [], row, h => by cases row <;> rfl
  | k :: ks, [], h => by simp at h
  | k :: ks, c :: row, h => by
    rw [List.length_cons, firE, firE_shift]
    rw [show (fun i => oneE ((k :: ks).getD (i + 1) 0) ((c :: row).getD (i + 1) C.null)) = fun i => oneE (ks.getD i 0) (row.getD i C.null) from rfl, firE_row ks row (by simpa using h)]
    rw [O.rowE, chk_one]
    rfl
theorem rowE_lt : ∀ (ks : List Int) (row : List C.Cl), O.rowE ks row < 9
  | [], row => by unfold O.rowE; omega
  | k :: ks, [] => by unfold O.rowE; omega
  | k :: ks, c :: row => by
    rw [O.rowE, chk_one]
    have := oneE_lt k c
    split
    · exact this
    · exact rowE_lt ks row

set_option maxHeartbeats 2000000 in
set_option maxRecDepth 100000 in
theorem ask_any (ap : Option Addr) (cp : Nat) (p : List O.Cd) (ka : Option Addr) (kcap : Nat) (ks : List Int) (a : Option Addr) (cap : Nat) (row : List C.Cl) (w : World)
    (hpm : p.length ≤ maxLen) (hpx : ∀ x ∈ p, dOk x) (hpu : Cds w w.heap.size ap p) (hkm : ks.length ≤ maxLen) (hku : Ints w w.heap.size ka ks) (hm : row.length ≤ maxLen) (hx : ∀ x ∈ row, cOk x) (hu : Cls w w.heap.size a row) :
    Calls Try.prog 8 #[.slice ap p.length cp, .slice ka ks.length kcap, .slice a row.length cap] w (IEPost (O.askR p ks row) w) := by
  have hb0 : Below w.heap.size w (w.alloc (.cells #[.slice ka ks.length kcap] 23)) := (Below.refl _ _).alloc (Nat.le_refl _) _
  have hb1 : Below w.heap.size w ((w.alloc (.cells #[.slice ka ks.length kcap] 23)).alloc (.cells #[.slice a row.length cap] 24)) := hb0.alloc (by simp) _
  have hB0 : Boxed (w.alloc (.cells #[.slice ka ks.length kcap] 23)) w.heap.size 23 (.slice ka ks.length kcap) := boxed_new _ _ _
  have hB0' : Boxed ((w.alloc (.cells #[.slice ka ks.length kcap] 23)).alloc (.cells #[.slice a row.length cap] 24)) w.heap.size 23 (.slice ka ks.length kcap) := boxed_next hB0 ((Below.refl _ _).alloc (Nat.le_refl _) _)
  have hB1 : Boxed ((w.alloc (.cells #[.slice ka ks.length kcap] 23)).alloc (.cells #[.slice a row.length cap] 24)) (w.heap.size + 1) 24 (.slice a row.length cap) := by
    have h := boxed_new (w.alloc (.cells #[.slice ka ks.length kcap] 23)) (.slice a row.length cap) 24
    rwa [show (w.alloc (.cells #[.slice ka ks.length kcap] 23)).heap.size = w.heap.size + 1 by simp] at h
  have HC := Lib.hid (fun W (hb : Below w.heap.size w W) => pcheck_any ap cp p ka kcap ks W hpm hpx (hpu.next at5_firm hb) hkm (hku.next at1_firm hb))
  have hcl := O.check_lt p ks
  have hR : O.askR p ks row = if O.check p ks ≠ 0 then (0, O.check p ks) else if row.length ≠ ks.length then (0, 1) else if O.rowE ks row ≠ 0 then (0, O.rowE ks row) else ((O.run (O.askL row) O.jo [] p).getD 0 0, 0) := rfl
  rw [hR]
  clear hR
  by_cases hc : O.check p ks ≠ 0
  · rw [if_pos hc]
    generalize O.check p ks = er at *
    have g1 : ((er : Int) != 0) = true := by rw [bne_iff_ne]; omega
    have HC := Lib.hid (HC.out _ hb1)
    generalize hW : (w.alloc (.cells #[.slice ka ks.length kcap] 23)).alloc (.cells #[.slice a row.length cap] 24) = W1 at *
    have HW := Lib.hid hW
    clear hW
    go_enter Try.func8, Try.ntmps8
    go_wp2_with fail
    rw [HW.out]
    refine HC.out.mono ?_
    rintro e w1 ⟨rfl, hb2⟩
    go_wp2_with fail
    go_ret2
    exact ⟨rfl, below_then hb1 hb2⟩
  rw [if_neg hc]
  have hc0 : O.check p ks = 0 := by omega
  have HC := Lib.hid (HC.out _ hb1)
  rw [hc0] at HC
  obtain ⟨h16, hck⟩ := O.check_zero hc0
  have hal := O.chk_alone ks p 0 hck
  have hrf := O.run_free (O.askL row) O.jo ks p [] hck
  have hw2 : ((w.alloc (.cells #[.slice ka ks.length kcap] 23)).alloc (.cells #[.slice a row.length cap] 24)).heap.size = w.heap.size + 1 + 1 := by simp
  generalize hW : (w.alloc (.cells #[.slice ka ks.length kcap] 23)).alloc (.cells #[.slice a row.length cap] 24) = W1 at *
  have HW := Lib.hid hW
  clear hW
  by_cases hlen : ¬ row.length = ks.length
  · rw [if_pos hlen]
    have g1 : ((row.length : Int) != (ks.length : Int)) = true := by rw [bne_iff_ne]; omega
    clear hpx hpu hku hx hu hal hrf
    go_enter Try.func8, Try.ntmps8
    go_wp2_with fail
    rw [HW.out]
    refine HC.out.mono ?_
    rintro e w1 ⟨rfl, hb2⟩
    have c0 := boxed_c0 (boxed_next hB0' hb2)
    have c1 := boxed_c0 (boxed_next hB1 hb2)
    go_wp2_with fail
    go_ret2
    exact ⟨rfl, below_then hb1 hb2⟩
  have hlen : row.length = ks.length := Classical.not_not.1 hlen
  rw [if_neg (by omega)]
  have HE := Lib.hid (fun W (hb : Below W1.heap.size W1 W) => each_ask w.heap.size (w.heap.size + 1) ka ks.length kcap (fun j => oneE (ks.getD j 0) (row.getD j C.null)) (fun j => Nat.lt_trans (oneE_lt (ks.getD j 0) (row.getD j C.null)) (by omega)) W hkm (fun W2 hb2 j hj => by
    have hbb := below_then hb hb2
    exact askcol_any w.heap.size (w.heap.size + 1) j ka kcap ks a cap row W2 (boxed_next hB0' hbb) (boxed_next hB1 hbb) (hku.next at1_firm (below_then hb1 hbb)) (hu.next (below_then hb1 hbb)) hx hj (by omega) hm hkm))
  rw [firE_row ks row hlen] at HE
  have hrl := rowE_lt ks row
  by_cases hre : O.rowE ks row ≠ 0
  · rw [if_pos hre]
    generalize O.rowE ks row = er at *
    have g2 : ((row.length : Int) != (ks.length : Int)) = false := by rw [hlen]; simp
    have g1 : ((er : Int) != 0) = true := by rw [bne_iff_ne]; omega
    clear hpx hpu hku hx hu hal hrf hlen
    go_enter Try.func8, Try.ntmps8
    go_wp2_with fail
    rw [HW.out]
    refine HC.out.mono ?_
    rintro e w1 ⟨rfl, hb2⟩
    have c0 := boxed_c0 (boxed_next hB0' hb2)
    have c1 := boxed_c0 (boxed_next hB1 hb2)
    go_wp2_with fail
    refine (HE.out _ hb2).mono ?_
    rintro e w2 ⟨rfl, hb3⟩
    go_wp2_with fail
    go_ret2
    exact ⟨rfl, below_then (below_then hb1 hb2) hb3⟩
  rw [if_neg hre]
  have hre0 : O.rowE ks row = 0 := by omega
  rw [hre0] at HE
  have HAL := Lib.hid (fun W (hb : Below W1.heap.size W1 W) => along_ask (w.heap.size + 1) ap cp p (O.askL row) 2 (by omega) (fun c => O.told_le _ _) (fun op a b ha hb => O.jo_le op a b ha hb) W h16 hpx (hpu.next at5_firm (below_then hb1 hb)) hrf.1 hrf.2
    (fun W2 hb2 j hj hp0 => by
      have hbb := below_then hb hb2
      have hcx : O.alone ks (p.getD j O.nullC) = 0 := hal _ (by simp only [List.getD, List.getElem?_eq_getElem hj, Option.getD_some]; exact List.getElem_mem hj)
      have hl := O.alone_leaf hcx hp0
      exact askleaf_any (w.heap.size + 1) (p.getD j O.nullC) a cap row W2 (boxed_next hB1 hbb) hm (hu.next (below_then hb1 hbb)) ⟨hl.2.2.1, by omega⟩)
    (fun W2 op a b ha hb => joined_any op a b W2 ha hb))
  generalize (O.run (O.askL row) O.jo [] p).getD 0 0 = rr at *
  have g2 : ((row.length : Int) != (ks.length : Int)) = false := by rw [hlen]; simp
  clear hpx hpu hku hx hu hal hrf hlen
  go_enter Try.func8, Try.ntmps8
  go_wp2_with fail
  rw [HW.out]
  refine HC.out.mono ?_
  rintro e w1 ⟨rfl, hb2⟩
  have c0 := boxed_c0 (boxed_next hB0' hb2)
  have c1 := boxed_c0 (boxed_next hB1 hb2)
  go_wp2_with fail
  refine (HE.out _ hb2).mono ?_
  rintro e w2 ⟨rfl, hb3⟩
  have hb4 := below_then hb2 hb3
  have d0 := boxed_c0 (boxed_next hB0' hb4)
  have d1 := boxed_c0 (boxed_next hB1 hb4)
  go_wp2_with fail
  refine (HAL.out _ hb4).mono ?_
  rintro e w3 ⟨rfl, hb5⟩
  go_wp2_with fail
  go_ret2
  exact ⟨rfl, below_then (below_then hb1 hb4) hb5⟩
end Go.Proofs.Ytecfknolpnjokaa
