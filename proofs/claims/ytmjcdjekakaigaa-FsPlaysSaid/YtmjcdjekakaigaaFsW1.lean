/- fs.place; slices.IndexFunc, slices.ContainsFunc at fs.entry's closure; fs.entry; slices.Clone of entries, of nodes. -/
import Derived.Test.YtmjcdjekakaigaaFsPl
import Derived.Test.YtmjcdjekakaigaaFsNm
namespace Go.Proofs.Ytmjcdjekakaigaa.Fs
open Go.RowKit
set_option linter.unusedVariables false

set_option maxHeartbeats 1000000 in
set_option maxRecDepth 100000 in
theorem place_any (n : S) (a : Option Addr) (c : Nat) (l : List En) (w : World) (hm : l.length ≤ 1048576) (hu : Ens w w.heap.size a l) (hup : l.Pairwise (fun x y => x.name < y.name)) :
    Calls Try.prog 21 #[.slice a l.length c, .string (str n)] w (PlacePost (pos l n) (has l n) w) := by
  have HC := Lib.hid (bsearch_any n a c l w hm hu hup)
  generalize pos l n = R at *
  generalize has l n = H at *
  clear hu hup
  go_enter Try.func21, Try.ntmps21
  go_wp2_with fail
  refine (HC.out).mono ?_
  rintro e w1 ⟨rfl, hb1⟩
  go_wp2_with fail
  go_ret2
  exact ⟨rfl, hb1⟩

theorem idx_step {l : List En} {p : En → Bool} {j : Nat} (hj : j < l.length) (h0 : (l.take j).any p = false) (h : p (l.getD j nulE) = false) : (l.take (j + 1)).any p = false := by
  rw [take_snoc l nulE j hj, any_snoc, h0, h]; rfl
theorem idx_hit {l : List En} {p : En → Bool} {j : Nat} (hj : j < l.length) (h : p (l.getD j nulE) = true) : l.any p = true := List.any_eq_true.2 ⟨_, getD_mem l nulE j hj, h⟩
/-- at some place from 0 on, or at -1, if there is none -/
def IdxPost (b : Bool) (w : World) (e : Ending) (w' : World) : Prop := ∃ i : Int, e = .returned (.int .i64 i) ∧ decide (0 ≤ i) = b ∧ Below w.heap.size w w'
set_option maxHeartbeats 1000000 in
set_option maxRecDepth 100000 in
theorem index_any (b : Nat) (x : En) (a : Option Addr) (c : Nat) (l : List En) (w : World) (hm : l.length ≤ maxLen) (hu : Ens w w.heap.size a l) (hB : Bk w b 47 #[.string (str x.name), .int .i64 x.node]) :
    Calls Try.prog 54 #[.slice a l.length c, .func (.func 48) #[] #[.pointer (some ⟨b, 0, none⟩)]] w (IdxPost (l.any fun y => decide (y.node = x.node)) w) := by
  have HU := Lib.hid hu
  have HC := Lib.hid (fun y W (hb : Below w.heap.size w W) => entry1_any b x y W (hB.next hb))
  have HH := Lib.hid (fun j (hj : j < l.length) (h : decide ((l.getD j nulE).node = x.node) = true) => idx_hit (p := fun y => decide (y.node = x.node)) hj h)
  have HN := Lib.hid (fun j (hj : j < l.length) h0 (h : decide ((l.getD j nulE).node = x.node) = false) => idx_step (p := fun y => decide (y.node = x.node)) hj h0 h)
  have HE := Lib.hid (show (l.take l.length).any (fun y => decide (y.node = x.node)) = l.any (fun y => decide (y.node = x.node)) by rw [List.take_length])
  have H0 := Lib.hid (show (l.take 0).any (fun y => decide (y.node = x.node)) = false by simp)
  generalize hR : l.any (fun y => decide (y.node = x.node)) = R at *
  clear hR
  unfold maxLen at hm
  clear hu hB
  go_enter Try.func54, Try.ntmps54
  go_wp2_with fail
  go_loopw [5, 8] (fun _ i wr => ∃ j : Nat, j ≤ l.length ∧ i = .int .i64 j ∧ Below w.heap.size w wr ∧ Hid ((l.take j).any (fun y => decide (y.node = x.node)) = false)) (fun _ i _ => l.length - (intOf i).toNat)
  case atStart => exact ⟨0, by omega, rfl, Below.refl _ _, H0⟩
  case round =>
    obtain ⟨j, hj, rfl, hbw, HJ⟩ := hrel
    by_cases hlt : j < l.length
    · obtain ⟨bb, off, rfl, hbb, hcc⟩ := HU.out (fun e => by rw [e] at hlt; simp at hlt)
      obtain ⟨k0, k1⟩ := hcc j hlt
      have c0 := (hbw.cell (p := ⟨bb, off + j * 2, none⟩) hbb).trans k0
      have c1 := (hbw.cell (p := ⟨bb, off + j * 2 + 1, none⟩) hbb).trans k1
      have hcall := HC.out (l.getD j nulE) wr hbw
      have hh := HH.out j hlt
      have hn := HN.out j hlt HJ.out
      unfold enV at hcall
      generalize (l.getD j nulE).node = z at *
      generalize str (l.getD j nulE).name = Y at *
      generalize decide (z = x.node) = r at *
      have hjI : (j : Int) < (l.length : Int) := by omega
      clear k0 k1 hcc
      cases r with
      | true =>
        have HF := Lib.hid (hh rfl)
        have HCX := Lib.hid hcall
        clear hh hn hcall
        go_wp2_with fail
        refine (HCX.out).mono ?_
        rintro e w1 ⟨rfl, hb1⟩
        go_wp2_with fail
        go_ret
        exact ⟨_, rfl, by rw [HF.out]; exact decide_eq_true (by omega), below_then hbw hb1⟩
      | false =>
        have HNX := Lib.hid (hn rfl)
        have HCX := Lib.hid hcall
        clear hh hn hcall
        go_wp2_with fail
        refine (HCX.out).mono ?_
        rintro e w1 ⟨rfl, hb1⟩
        go_wp2_with fail
        exact ⟨⟨j + 1, by omega, by go_num, below_then hbw hb1, HNX⟩, by simp [intOf]; omega⟩
    · obtain rfl : j = l.length := by omega
      have HF := Lib.hid (HE.out.symm.trans HJ.out)
      go_wp2_with fail
      go_ret
      exact ⟨_, rfl, by rw [HF.out]; rfl, hbw⟩
set_option maxHeartbeats 1000000 in
set_option maxRecDepth 100000 in
theorem contains_any (b : Nat) (x : En) (a : Option Addr) (c : Nat) (l : List En) (w : World) (hm : l.length ≤ maxLen) (hu : Ens w w.heap.size a l) (hB : Bk w b 47 #[.string (str x.name), .int .i64 x.node]) :
    Calls Try.prog 47 #[.slice a l.length c, .func (.func 48) #[] #[.pointer (some ⟨b, 0, none⟩)]] w (BoolPost (l.any fun y => decide (y.node = x.node)) w) := by
  have HC := Lib.hid (index_any b x a c l w hm hu hB)
  generalize (l.any fun y => decide (y.node = x.node)) = R at *
  clear hu hB
  go_enter Try.func47, Try.ntmps47
  go_wp2_with fail
  refine (HC.out).mono ?_
  rintro e w1 ⟨i, rfl, hi, hb1⟩
  subst hi
  go_wp2_with fail
  go_ret
  exact ⟨by first | rfl | simp, hb1⟩

set_option maxHeartbeats 1000000 in
set_option maxRecDepth 100000 in
theorem cloneE_any (a : Option Addr) (c : Nat) (l : List En) (w : World) (hm : l.length ≤ 1048576) (hcap : capOk l.length c a) (hu : Ens w w.heap.size a l) :
    Calls Try.prog 24 #[.slice a l.length c] w (fun e w' => ∃ v, e = .returned v ∧ ERow w.heap.size l v w' ∧ Below w.heap.size w w') := by
  obtain ⟨hcl, hcm, hnil⟩ := hcap
  have q22 : ∀ (w : World) (a : Option Addr) (n c n' c' : Nat), (binOp .eql 23 (.slice a n c) (.slice none n' c')).run Try.prog w = .ok (.bool a.isNone) w := fun w a n c n' c' => Lib.run_eql_slice_nil w _ _ a n c n' c' Try.underlying23
  match a, hnil, hu with
  | none, hnil, hu =>
    obtain rfl : c = 0 := hnil rfl
    obtain rfl : l = [] := List.eq_nil_of_length_eq_zero (by omega)
    go_enter Try.func24, Try.ntmps24
    go_wp2_with fail
    go_ret
    exact ⟨_, rfl, enil _ _, Below.refl _ _⟩
  | some ad, hnil, hu =>
    have hal : Below w.heap.size w (w.alloc (.cells #[] 47)) := (Below.refl _ _).alloc (Nat.le_refl _) _
    have HU := Lib.hid (hu.next enAt_firm hal)
    have HE := Lib.hid (eempty w.heap.size w (Nat.le_refl _))
    have hbase : w.heap.size ≤ (w.alloc (.cells #[] 47)).heap.size := by simp
    have hby : (([] : List En).length + l.length) * 24 ≤ 140737488355328 := by simp; omega
    clear hu hcl
    go_enter Try.func24, Try.ntmps24
    go_wp2_with (at_builtin; refine wpList_append_en rfl (.tmp 5) (.tmp 6) rfl w.heap.size _ [] rfl HE.out (some ad) l.length c l rfl rfl (fun h => by cases h) HU.out hby hbase ?_)
    intro v' w5 hown5 hb5 hfar
    clear hfar
    go_wp2_with fail
    go_ret
    exact ⟨_, rfl, hown5, hal.trans hb5⟩
set_option maxHeartbeats 1000000 in
set_option maxRecDepth 100000 in
theorem cloneN_any (a : Option Addr) (c : Nat) (l : List Nd) (w : World) (hm : l.length ≤ 1048576) (hcap : capOk l.length c a) (hu : Nds w w.heap.size a l) :
    Calls Try.prog 42 #[.slice a l.length c] w (fun e w' => ∃ v, e = .returned v ∧ NRow w.heap.size l v w' ∧ Below w.heap.size w w') := by
  obtain ⟨hcl, hcm, hnil⟩ := hcap
  have q22 : ∀ (w : World) (a : Option Addr) (n c n' c' : Nat), (binOp .eql 22 (.slice a n c) (.slice none n' c')).run Try.prog w = .ok (.bool a.isNone) w := fun w a n c n' c' => Lib.run_eql_slice_nil w _ _ a n c n' c' Try.underlying22
  match a, hnil, hu with
  | none, hnil, hu =>
    obtain rfl : c = 0 := hnil rfl
    obtain rfl : l = [] := List.eq_nil_of_length_eq_zero (by omega)
    go_enter Try.func42, Try.ntmps42
    go_wp2_with fail
    go_ret
    exact ⟨_, rfl, nnil _ _, Below.refl _ _⟩
  | some ad, hnil, hu =>
    have hal : Below w.heap.size w (w.alloc (.cells #[] 49)) := (Below.refl _ _).alloc (Nat.le_refl _) _
    have HU := Lib.hid (hu.next ndAt_firm hal)
    have HE := Lib.hid (nempty w.heap.size w (Nat.le_refl _))
    have hbase : w.heap.size ≤ (w.alloc (.cells #[] 49)).heap.size := by simp
    have hby : (([] : List Nd).length + l.length) * 32 ≤ 140737488355328 := by simp; omega
    clear hu hcl
    go_enter Try.func42, Try.ntmps42
    go_wp2_with (at_builtin; refine wpList_append_nd rfl (.tmp 5) (.tmp 6) rfl w.heap.size _ [] rfl HE.out (some ad) l.length c l rfl rfl (fun h => by cases h) HU.out hby hbase ?_)
    intro v' w5 hown5 hb5 hfar
    clear hfar
    go_wp2_with fail
    go_ret
    exact ⟨_, rfl, hown5, hal.trans hb5⟩
end Go.Proofs.Ytmjcdjekakaigaa.Fs
