/- The law PatchShifts. -/
import Derived.Test.YtpjmpbpbfjemdaaPL1
namespace Go.Proofs.Ytpjmpbpbfjemdaa
open Go.RowKit
set_option linter.unusedVariables false

theorem costR_shift (l : List Nat) (n : Nat) (wide : Int) : costR (l.map fun x => x + n) wide = costR l wide := by
  unfold costR
  rw [P.more_shift, List.length_map]
theorem map_take (l : List Nat) (n k : Nat) (h : k < l.length) : (l.take (k + 1)).map (fun x => x + n) = (l.take k).map (fun x => x + n) ++ [l.getD k 0 + n] := by
  have e : l.take (k + 1) = l.take k ++ [l.getD k 0] := by
    rw [List.take_succ_eq_append_getElem h]; simp [List.getD, List.getElem?_eq_getElem h]
  rw [e, List.map_append]; rfl
/-- so far none is too much -/
def Fits (l : List Nat) (n k : Nat) : Prop := ∀ j, j < k → l.getD j 0 + n < 18446744073709551616
theorem Fits.map {l : List Nat} {n : Nat} (h : Fits l n l.length) : ∀ x ∈ l.map (fun x => x + n), x < 18446744073709551616 := by
  intro x hx
  obtain ⟨y, hy, rfl⟩ := List.mem_map.1 hx
  obtain ⟨j, hj, he⟩ := List.mem_iff_getElem.1 hy
  have := h j hj
  simp only [List.getD, List.getElem?_eq_getElem hj, Option.getD_some] at this
  rw [← he]; exact this
theorem Fits.succ {l : List Nat} {n k : Nat} (h : Fits l n k) (hk : l.getD k 0 + n < 18446744073709551616) : Fits l n (k + 1) := by
  intro j hj
  by_cases e : j = k
  · rw [e]; exact hk
  · exact h j (by omega)

set_option maxHeartbeats 1000000 in
set_option maxRecDepth 100000 in
theorem patchShifts_walk (w : World) (a : Option Addr) (c : Nat) (l : List Nat) (hm : l.length ≤ maxLen) (hcap : l.length ≤ c ∧ c ≤ maxLen ∧ (a = none → c = 0)) (hx : ∀ x ∈ l, x < 18446744073709551616) (hu : Nums w w.heap.size a l)
    (n : Nat) (hn : n < 18446744073709551616) (wide : Int) (hw : -9223372036854775808 ≤ wide ∧ wide ≤ 9223372036854775807) (hr : l.length * 8 ≤ 140737488351232) :
    Calls Try.prog 13 #[.slice a l.length c, .int .u64 (n : Int), .int .i64 wide] w (BoolPost true w) := by
  unfold maxLen at hm
  have HU := Lib.hid hu
  have HC1 := Lib.hid (fun W h => pcost_any a c l wide W hx h)
  have hc2 := fun A c' W (hf : Fits l n l.length) h => pcost_any A c' (l.map fun x => x + n) wide W hf.map h
  rw [costR_shift] at hc2
  have hml : (l.map fun x => x + n).length = l.length := by simp
  simp only [hml] at hc2
  have HC2 := Lib.hid hc2
  have HML := Lib.hid hml
  have HX := Lib.hid (fun k (h : k < l.length) => hx _ (getD_mem l k h))
  have HMT := Lib.hid (fun k h => map_take l n k h)
  have HEND := Lib.hid (show (l.take l.length).map (fun x => x + n) = l.map fun x => x + n by rw [List.take_length])
  have HLN := Lib.hid (fun k (h : k ≤ l.length) => show ((l.take k).map fun x => x + n).length = k by simp; omega)
  generalize costR l wide = r at *
  obtain ⟨r1, r2⟩ := r
  have hsub : (18446744073709551615 : Int) - (n : Int) = ((18446744073709551615 - n : Nat) : Int) := by omega
  have hsubw : IntKind.u64.wrap ((18446744073709551615 : Int) - (n : Int)) = ((18446744073709551615 - n : Nat) : Int) := by rw [IntKind.wrap_u64]; omega
  obtain ⟨q, hq⟩ : ∃ q, q = 18446744073709551615 - n := ⟨_, rfl⟩
  rw [← hq] at hsub hsubw
  have HQ := Lib.hid hq
  clear hx hu hc2 hml hq
  go_enter Try.func13, Try.ntmps13
  go_wp2_with fail
  refine (pbegun_any _).mono ?_
  rintro e w1 ⟨rfl, hb1⟩
  go_wp2_with fail
  go_loopw [7, 8] (fun v i wr => ∃ k : Nat, k ≤ l.length ∧ i = .int .i64 k ∧ Hid (Fits l n k) ∧ NumRow w.heap.size ((l.take k).map fun x => x + n) v wr ∧ Below w.heap.size w wr) (fun _ i _ => l.length - (intOf i).toNat)
  case atStart => exact ⟨0, by omega, rfl, Lib.hid (fun j hj => absurd hj (by omega)), ⟨rfl, Or.inl ⟨rfl, rfl⟩⟩, hb1⟩
  case round =>
    obtain ⟨k, hk, rfl, HF, hrow, hbw⟩ := hrel
    by_cases hlt : k < l.length
    · obtain ⟨b, off, rfl, hb, hcc⟩ := HU.out (fun e => by rw [e] at hlt; simp at hlt)
      have ck := (hbw.cell (p := ⟨b, off + k, none⟩) hb).trans (hcc k hlt)
      have hxk := HX.out k hlt
      have HT := Lib.hid (HMT.out k hlt)
      have hln := HLN.out k hk
      have HFS := Lib.hid (fun h => (HF.out).succ (l := l) (n := n) (k := k) h)
      generalize l.getD k 0 = x at *
      generalize (l.take k).map (fun x => x + n) = acc at *
      have hkI : (k : Int) < (l.length : Int) := by omega
      by_cases hov : q < x
      · have g1 : decide (q < x) = true := decide_eq_true hov
        clear hcc hln hov
        go_wp2_with fail
        go_ret
        exact ⟨rfl, hbw⟩
      · have g1 : decide (q < x) = false := decide_eq_false hov
        have hsm : x + n < 18446744073709551616 := by have := HQ.out; omega
        have HF2 := Lib.hid (HFS.out hsm)
        have hwr : IntKind.u64.wrap ((x : Int) + (n : Int)) = ((x + n : Nat) : Int) := by rw [IntKind.wrap_u64]; omega
        have hwr2 : (x : Int) + (n : Int) = ((x + n : Nat) : Int) := by omega
        generalize x + n = y at *
        have hown : wr.ownsRow w.heap.size 23 1 u7 acc.length (nv acc) := hrow
        have HOWN := Lib.hid hown
        have hb5 : w.heap.size ≤ (wr.alloc (.cells #[.int .u64 (y : Int)] 23)).heap.size := by have := hbw.size; simp; omega
        have hlb : (acc.length + 1) * 8 ≤ 140737488355328 := by omega
        clear hrow hown hcc hln hov
        go_wp2_with (at_builtin; refine wpList_append_one rfl (.tmp 28) (.tmp 35) rfl w.heap.size _ acc.length _ rfl (HOWN.out.alloc _) wr.heap.size y rfl (World.cell?_alloc_new _ _ _ _) hlb hb5 ?_)
        intro v' w5 hown5 hgrow5
        have hbw5 : Below w.heap.size w w5 := (hbw.alloc hbw.size _).grown hgrow5 (by have := hbw.size; simp; omega) (fun k hk => (HOWN.out.lt k hk).1)
        go_wp2_with fail
        refine ⟨⟨k + 1, by omega, by go_num, HF2, ?_, hbw5⟩, by simp [intOf]; omega⟩
        rw [HT.out]; unfold NumRow; rw [List.length_append]; simpa [nv] using hown5
    · obtain rfl : k = l.length := by omega
      rw [HEND.out] at hrow
      obtain ⟨a4, c4, rfl, hn4⟩ := numRow_nums hrow
      have HN4 := Lib.hid hn4
      rw [HML.out]
      clear hrow hn4
      go_wp2_with fail
      refine (HC1.out _ (HU.out.next hbw)).mono ?_
      rintro e w2 ⟨rfl, hb2⟩
      go_wp2_with fail
      refine (HC2.out _ _ _ HF.out (HN4.out.next hb2)).mono ?_
      rintro e w3 ⟨rfl, hb3⟩
      go_wp2_with fail
      go_ret
      exact ⟨rfl, below_then (below_then hbw hb2) hb3⟩
end Go.Proofs.Ytpjmpbpbfjemdaa
