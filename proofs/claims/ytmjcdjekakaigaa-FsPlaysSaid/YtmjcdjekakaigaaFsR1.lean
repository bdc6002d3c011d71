/- The walks of the reference's isNamed, nodeOf. -/
import Derived.Test.YtmjcdjekakaigaaFsPl
import Derived.Test.YtmjcdjekakaigaaFsP2
namespace Go.Proofs.Ytmjcdjekakaigaa.Fs
open Go.RowKit
set_option linter.unusedVariables false

set_option maxHeartbeats 1000000 in
set_option maxRecDepth 100000 in
theorem rNamed_any (ad ay : Option Addr) (cd cy : Nat) (d s : List En) (i : Int) (w : World) (hd : d.length ≤ maxLen) (hs : s.length ≤ maxLen) (hud : Ens w w.heap.size ad d) (hus : Ens w w.heap.size ay s) :
    Calls Try.prog 36 #[.slice ad d.length cd, .slice ay s.length cy, .int .i64 i] w fun e w' => e = .returned (.bool (named d s i)) ∧ w' = w := by
  have HD := Lib.hid hud
  have HS := Lib.hid hus
  have HH1 := Lib.hid (fun j (hj : j < d.length) (h : decide ((d.getD j nulE).node = i) = true) => show named d s i = true by
    unfold named; rw [(List.any_eq_true (l := d)).2 ⟨_, getD_mem d nulE j hj, h⟩]; rfl)
  have HH2 := Lib.hid (fun j (hj : j < s.length) (h : decide ((s.getD j nulE).node = i) = true) => show named d s i = true by
    unfold named; rw [(List.any_eq_true (l := s)).2 ⟨_, getD_mem s nulE j hj, h⟩]; simp)
  have HN1 := Lib.hid (fun j (hj : j < d.length) (h0 : (d.take j).any (fun e => decide (e.node = i)) = false) (h : decide ((d.getD j nulE).node = i) = false) => show (d.take (j + 1)).any (fun e => decide (e.node = i)) = false by
    rw [take_snoc d nulE j hj, any_snoc, h0, h]; rfl)
  have HN2 := Lib.hid (fun j (hj : j < s.length) (h0 : (s.take j).any (fun e => decide (e.node = i)) = false) (h : decide ((s.getD j nulE).node = i) = false) => show (s.take (j + 1)).any (fun e => decide (e.node = i)) = false by
    rw [take_snoc s nulE j hj, any_snoc, h0, h]; rfl)
  have HE := Lib.hid (fun (h1 : (d.take d.length).any (fun e => decide (e.node = i)) = false) (h2 : (s.take s.length).any (fun e => decide (e.node = i)) = false) => show named d s i = false by
    rw [List.take_length] at h1 h2; unfold named; rw [h1, h2]; rfl)
  have HQ := Lib.hid (fun (u : Int) => show (u == i) = decide (u = i) by by_cases h : u = i <;> simp [h])
  generalize named d s i = R at *
  unfold maxLen at hd hs
  clear hud hus
  go_enter Try.func36, Try.ntmps36
  go_wp2_with fail
  go_loop [7] (fun v => ∃ j : Nat, j ≤ d.length ∧ v = .int .i64 j ∧ Hid ((d.take j).any (fun e => decide (e.node = i)) = false)) (fun v => d.length - (intOf v).toNat)
  case atStart => exact ⟨0, by omega, rfl, Lib.hid (by simp)⟩
  case round =>
    obtain ⟨j, hj, rfl, HJ⟩ := hrel
    by_cases hlt : j < d.length
    · obtain ⟨bb, off, rfl, hbb, hcc⟩ := HD.out (fun e => by rw [e] at hlt; simp at hlt)
      obtain ⟨k0, k1⟩ := hcc j hlt
      have hh := HH1.out j hlt
      have hn := HN1.out j hlt HJ.out
      have hq := HQ.out (d.getD j nulE).node
      generalize (d.getD j nulE).node = z at *
      generalize decide (z = i) = r at *
      have hjI : (j : Int) < (d.length : Int) := by omega
      clear hcc k0
      cases r with
      | true =>
        have HF := Lib.hid (hh rfl)
        clear hh hn
        go_wp2_with fail
        go_ret
        exact ⟨by rw [HF.out]; rfl, rfl⟩
      | false =>
        have HF := Lib.hid (hn rfl)
        clear hh hn
        go_wp2_with fail
        exact ⟨⟨j + 1, by omega, by go_num, HF⟩, by simp [intOf]; omega⟩
    · obtain rfl : j = d.length := by omega
      go_wp2_with fail
      go_loop [8] (fun v => ∃ j : Nat, j ≤ s.length ∧ v = .int .i64 j ∧ Hid ((s.take j).any (fun e => decide (e.node = i)) = false)) (fun v => s.length - (intOf v).toNat)
      case atStart => exact ⟨0, by omega, rfl, Lib.hid (by simp)⟩
      case round =>
        obtain ⟨j, hj, rfl, HJ2⟩ := hrel
        by_cases hlt2 : j < s.length
        · obtain ⟨bb, off, rfl, hbb, hcc⟩ := HS.out (fun e => by rw [e] at hlt2; simp at hlt2)
          obtain ⟨k0, k1⟩ := hcc j hlt2
          have hh := HH2.out j hlt2
          have hn := HN2.out j hlt2 HJ2.out
          have hq := HQ.out (s.getD j nulE).node
          generalize (s.getD j nulE).node = z at *
          generalize decide (z = i) = r at *
          have hjI : (j : Int) < (s.length : Int) := by omega
          clear hcc k0
          cases r with
          | true =>
            have HF := Lib.hid (hh rfl)
            clear hh hn
            go_wp2_with fail
            go_ret
            exact ⟨by rw [HF.out]; rfl, rfl⟩
          | false =>
            have HF := Lib.hid (hn rfl)
            clear hh hn
            go_wp2_with fail
            exact ⟨⟨j + 1, by omega, by go_num, HF⟩, by simp [intOf]; omega⟩
        · obtain rfl : j = s.length := by omega
          have HF := Lib.hid (HE.out HJ.out HJ2.out)
          go_wp2_with fail
          go_ret
          exact ⟨by rw [HF.out]; rfl, rfl⟩
theorem nodeOf_hit {l : List En} {n : S} {j : Nat} (hj : j < l.length) (h0 : (l.take j).any (fun e => decide (e.name = n)) = false) (h : decide ((l.getD j nulE).name = n) = true) : nodeOf l n = (l.getD j nulE).node := by
  unfold nodeOf
  have : l.find? (fun e => decide (e.name = n)) = some (l.getD j nulE) := by
    rw [List.find?_eq_some_iff_append]
    refine ⟨h, l.take j, l.drop (j + 1), ?_, ?_⟩
    · rw [← drop_cons l nulE j hj, List.take_append_drop]
    · intro x hx
      have := List.any_eq_false.1 h0 x hx
      simpa using this
  rw [this]; rfl
set_option maxHeartbeats 1000000 in
set_option maxRecDepth 100000 in
theorem rNode_any (a : Option Addr) (c : Nat) (l : List En) (n : S) (w : World) (hl : l.length ≤ maxLen) (hu : Ens w w.heap.size a l) :
    Calls Try.prog 27 #[.slice a l.length c, .string (str n)] w fun e w' => e = .returned (.int .i64 (nodeOf l n)) ∧ w' = w := by
  have HU := Lib.hid hu
  have HH := Lib.hid (fun j (hj : j < l.length) h0 (h : decide ((l.getD j nulE).name = n) = true) => nodeOf_hit hj h0 h)
  have HN := Lib.hid (fun j (hj : j < l.length) (h0 : (l.take j).any (fun e => decide (e.name = n)) = false) (h : decide ((l.getD j nulE).name = n) = false) => show (l.take (j + 1)).any (fun e => decide (e.name = n)) = false by
    rw [take_snoc l nulE j hj, any_snoc, h0, h]; rfl)
  have HE := Lib.hid (fun (h1 : (l.take l.length).any (fun e => decide (e.name = n)) = false) => nodeOf_none (l := l) (n := n) (by rw [List.take_length] at h1; exact h1))
  have HQ := Lib.hid (fun (u : S) => tl_eq u n)
  generalize nodeOf l n = R at *
  generalize hY : str n = Y at *
  unfold maxLen at hl
  clear hu hY
  go_enter Try.func27, Try.ntmps27
  go_wp2_with fail
  go_loop [5] (fun v => ∃ j : Nat, j ≤ l.length ∧ v = .int .i64 j ∧ Hid ((l.take j).any (fun e => decide (e.name = n)) = false)) (fun v => l.length - (intOf v).toNat)
  case atStart => exact ⟨0, by omega, rfl, Lib.hid (by simp)⟩
  case round =>
    obtain ⟨j, hj, rfl, HJ⟩ := hrel
    by_cases hlt : j < l.length
    · obtain ⟨bb, off, rfl, hbb, hcc⟩ := HU.out (fun e => by rw [e] at hlt; simp at hlt)
      obtain ⟨k0, k1⟩ := hcc j hlt
      have hh := HH.out j hlt HJ.out
      have hn := HN.out j hlt HJ.out
      have hq := HQ.out (l.getD j nulE).name
      generalize (l.getD j nulE).node = z at *
      generalize str (l.getD j nulE).name = X at *
      generalize decide ((l.getD j nulE).name = n) = r at *
      have hjI : (j : Int) < (l.length : Int) := by omega
      clear hcc
      cases r with
      | true =>
        have HF := Lib.hid (hh rfl)
        clear hh hn
        go_wp2_with fail
        go_ret
        exact ⟨by rw [HF.out]; rfl, rfl⟩
      | false =>
        have HF := Lib.hid (hn rfl)
        clear hh hn
        go_wp2_with fail
        exact ⟨⟨j + 1, by omega, by go_num, HF⟩, by simp [intOf]; omega⟩
    · obtain rfl : j = l.length := by omega
      have HF := Lib.hid (HE.out HJ.out)
      go_wp2_with fail
      go_ret
      exact ⟨by rw [HF.out]; rfl, rfl⟩
end Go.Proofs.Ytmjcdjekakaigaa.Fs
