/- The walk of front.Write. -/
import Derived.Test.YtplhlnlonjlcaaaFW2
namespace Go.Proofs.Ytplhlnlonjlcaaa
open Go.RowKit
set_option linter.unusedVariables false

def fwR (l : List (List UInt8)) : List UInt8 × Nat := if fitR l ≠ 0 then ([], 2) else (F.fb [] l, 0)
def FwPost (r : List UInt8 × Nat) (w : World) (e : Ending) (w' : World) : Prop := e = .returned (.tuple #[.string (str r.1), .int .i64 (r.2 : Nat)]) ∧ Below w.heap.size w w'

theorem ffit_zero {l : List (List UInt8)} (h : fitR l = 0) : l.length ≤ 64 ∧ (∀ x ∈ l, x.length ≤ 16) ∧ ¬ l.findIdx long < l.length := by
  unfold fitR at h
  rcases Classical.em (64 < l.length ∨ l.findIdx long < l.length) with hh | hh
  · rw [if_pos hh] at h; exact absurd h (by decide)
  · refine ⟨?_, ?_, fun k => hh (Or.inr k)⟩
    · rcases Nat.lt_or_ge 64 l.length with k | k
      · exact absurd (Or.inl k) hh
      · exact k
    · intro x hx
      rcases Nat.lt_or_ge 16 x.length with k | k
      · exact absurd (Or.inr (List.findIdx_lt_length_of_exists ⟨x, hx, by simp [long, k]⟩)) hh
      · exact k
theorem fit_cases (l : List (List UInt8)) : fitR l = 0 ∨ fitR l = 2 := by
  unfold fitR; split
  · exact Or.inr rfl
  · exact Or.inl rfl
theorem fb_step (l : List (List UInt8)) (j : Nat) (h : j < l.length) :
    F.fb [] (l.take (j + 1)) = F.fb [] (l.take j) ++ (V.encs [F.sh ((l.take j).getLastD []) (l.getD j []), (l.getD j []).length - F.sh ((l.take j).getLastD []) (l.getD j [])] ++ (l.getD j []).drop (F.sh ((l.take j).getLastD []) (l.getD j []))) := by
  rw [ttake_succ l j h, F.fb_snoc]
  simp [V.encs]
theorem last_step (l : List (List UInt8)) (j : Nat) (h : j < l.length) : (l.take (j + 1)).getLastD [] = l.getD j [] := by
  rw [ttake_succ l j h]; simp
theorem last_len (l : List (List UInt8)) (j : Nat) (hx : ∀ x ∈ l, x.length ≤ 16) : ((l.take j).getLastD []).length ≤ 16 := by
  cases hl : (l.take j).getLast? with
  | none => rw [List.getLastD_eq_getLast?, hl]; simp
  | some x => rw [List.getLastD_eq_getLast?, hl]; exact hx x (List.mem_of_mem_take (List.mem_of_getLast? hl))
theorem fb_bound (l : List (List UInt8)) (last : List UInt8) (hx : ∀ x ∈ l, x.length ≤ 16) : (F.fb last l).length ≤ 18 * l.length := by
  rw [F.fb_length l last hx]
  induction l generalizing last with
  | nil => simp [F.fl]
  | cons x t ih =>
    have h1 := hx x (by simp)
    have h2 := ih x (fun y hy => hx y (by simp [hy]))
    rw [F.fl, List.length_cons]; omega

theorem nums_two (w : World) (n m : Nat) : Nums (w.alloc (.cells #[.int .u64 (n : Int), .int .u64 (m : Int)] 41)) (w.alloc (.cells #[.int .u64 (n : Int), .int .u64 (m : Int)] 41)).heap.size (some ⟨w.heap.size, 0, none⟩) [n, m] := by
  intro _
  refine ⟨w.heap.size, 0, rfl, by simp, fun i hi => ?_⟩
  rw [Nat.zero_add, World.cell?_alloc_new]
  have : i = 0 ∨ i = 1 := by simp at hi; omega
  rcases this with rfl | rfl <;> rfl

theorem alen2 : Try.prog.arrayLen 41 = 2 := by kernel_rfl
theorem aunder2 : Try.prog.underlying 41 = some (.array (Try.prog.arrayLen 41) (Try.prog.elem 41)) := by kernel_rfl
theorem asize2 (w : World) : (sizeOf (Try.prog.elem 41)).run Try.prog w = .ok 1 w := by kernel_rfl

set_option maxHeartbeats 1000000 in
set_option maxRecDepth 100000 in
theorem fwrite_ok (a : Option Addr) (c : Nat) (l : List (List UInt8)) (w : World) (hf : fitR l = 0) (hu : Txts w w.heap.size a l) :
    Calls Try.prog 10 #[.slice a l.length c] w (FwPost (fwR l) w) := by
  obtain ⟨hl, hx, hni⟩ := ffit_zero hf
  have HU := Lib.hid hu
  have HX := Lib.hid hx
  have HR := Lib.hid (show fwR l = (F.fb [] l, 0) by unfold fwR; rw [hf]; rfl)
  have hct := contains_long w a c l hl hu
  rw [decide_eq_false hni] at hct
  have HC := Lib.hid hct
  have HFS := Lib.hid (fun j h => fb_step l j h)
  have HLS := Lib.hid (fun j h => last_step l j h)
  have HLL := Lib.hid (fun j => last_len l j hx)
  have HFB := Lib.hid (fun j => fb_bound (l.take j) [] (fun x h => hx x (List.mem_of_mem_take h)))
  have HGM := Lib.hid (fun j (h : j < l.length) => hx _ (tgetD_mem l j h))
  have g1 : decide ((64 : Int) < (l.length : Int)) = false := decide_eq_false (by omega)
  clear hx hu hct hni hf
  go_enter Try.func10, Try.ntmps10
  go_wp2_with fail
  refine (HC.out).mono ?_
  rintro e w1 ⟨rfl, rfl⟩
  go_wp2_with fail
  go_loopw [5, 6, 8, 9, 10, 21] (fun v b _ _ _ i wr => ∃ j : Nat, j ≤ l.length ∧ i = .int .i64 j ∧ b = .string (str ((l.take j).getLastD [])) ∧ BRow w.heap.size (F.fb [] (l.take j)) v wr ∧ Below w.heap.size w wr) (fun _ _ _ _ _ i _ => l.length - (intOf i).toNat)
  case atStart => exact ⟨0, by omega, rfl, rfl, BRow.nil_ _ _, Below.refl _ _⟩
  case round =>
    obtain ⟨j, hj, rfl, rfl, hbr, hbw⟩ := hrel
    by_cases hlt : j < l.length
    · obtain ⟨b, off, rfl, hb, hcc⟩ := HU.out (fun e => by rw [e] at hlt; simp at hlt)
      have cj := (hbw.cell (p := ⟨b, off + j, none⟩) hb).trans (hcc j hlt)
      have HS := Lib.hid (HFS.out j hlt)
      have HL := Lib.hid (HLS.out j hlt)
      have hll := HLL.out j
      have hxl := HGM.out j hlt
      have hfb := HFB.out j
      rw [List.length_take] at hfb
      generalize l.getD j [] = x at *
      generalize (l.take j).getLastD [] = y at *
      generalize F.fb [] (l.take j) = acc at *
      have HSH := Lib.hid (fun W => shared_any y x W (by unfold maxLen; omega) (by unfold maxLen; omega))
      have hnx := F.sh_le_right y x
      generalize F.sh y x = n at *
      have hsx := str_size x
      obtain ⟨X, hX⟩ : ∃ X, X = str x := ⟨_, rfl⟩
      rw [← hX] at hsx HSH cj
      have HXT := Lib.hid (show X.extract n X.size = str (x.drop n) by
        apply ByteArray.ext; apply Array.toList_inj.mp
        rw [show (X.extract n X.size).data.toList = X.data.toList.drop n from cut_data X n, hX]; rfl)
      generalize str y = Y at *
      have HXX := Lib.hid hX
      clear hX hcc
      have hjI : (j : Int) < (l.length : Int) := by omega
      have hcast : (X.size : Int) - (n : Int) = ((x.length - n : Nat) : Int) := by omega
      have hnX : n ≤ X.size := by omega
      have hX16 : X.size ≤ 16 := by omega
      have hnI : (n : Int) ≤ (X.size : Int) := by omega
      have HCA := Lib.hid hcast
      clear hsx hcast
      go_wp2_with fail
      refine (HSH.out _).mono ?_
      rintro e w2 ⟨rfl, hd⟩
      have hb2 : Below wr.heap.size wr w2 := by obtain ⟨d, rfl⟩ := hd; exact below_drewN (Below.refl _ _) _
      clear hd
      go_wp2_with fail
      have hnn := nums_two w2 n (x.length - n)
      have hal := all_any _ 2 [n, x.length - n] _ (by simp) (by intro z hz; simp at hz; rcases hz with rfl | rfl <;> omega) hnn
      have hel : (V.encs [n, x.length - n]).length ≤ 18 := by have := encs_le [n, x.length - n]; simpa using this
      rw [HCA.out]
      clear hnn
      generalize V.encs [n, x.length - n] = et at *
      refine Calls.mono hal ?_
      rintro e w3 ⟨rfl, hb3⟩
      have hs2 := hb2.size
      have hsw := hbw.size
      have hs3 := hb3.size
      simp at hs3
      have hA : Below w.heap.size wr w3 := ((hb2.mono hsw).alloc (by omega) _).trans (hb3.mono (by simp; omega))
      have hbr3 : BRow w.heap.size acc u5 w3 := (hbr.below hb2).alloc_ _ |>.below hb3
      have hsz3 : w.heap.size ≤ w3.heap.size := by omega
      have HBR3 := Lib.hid hbr3
      have HXN := Lib.hid HXT
      clear hbr hbr3 hb3 hal
      go_wp2_with (at_builtin; refine wpList_append_texts rfl (.tmp 36) (.tmp 38) rfl w.heap.size _ acc rfl HBR3.out (str et) et rfl rfl (by omega) hsz3 ?_)
      intro v5 w5 hbr5 hlow5
      have hB : Below w.heap.size wr w5 := hA.trans hlow5
      have HBR5 := Lib.hid hbr5
      have hsz5 : w.heap.size ≤ w5.heap.size := by have := hlow5.size; omega
      clear hbr5
      go_wp2_with (at_builtin; refine wpList_append_texts rfl (.tmp 40) (.tmp 43) rfl w.heap.size _ (acc ++ et) rfl HBR5.out _ (x.drop n) HXT.out rfl ?_ hsz5 ?_)
      · rw [List.length_append, List.length_drop]; omega
      intro v6 w6 hbr6 hlow6
      have HBR6 := Lib.hid hbr6
      clear hbr6
      go_wp2_with fail
      exact ⟨⟨j + 1, by omega, by go_num, by rw [HL.out, ← HXX.out], by rw [HS.out]; exact HBR6.out, hbw.trans (hB.trans hlow6)⟩, by simp [intOf]; omega⟩
    · obtain rfl : j = l.length := by omega
      rw [List.take_length] at hbr
      have ht := hbr.text
      clear hbr
      go_wp2_with fail
      go_ret2
      exact ⟨by rw [HR.out]; rfl, hbw⟩

set_option maxHeartbeats 400000 in
theorem fwrite_bad (a : Option Addr) (c : Nat) (l : List (List UInt8)) (w : World) (hf : fitR l ≠ 0) (hu : Txts w w.heap.size a l) :
    Calls Try.prog 10 #[.slice a l.length c] w (FwPost (fwR l) w) := by
  have HR := Lib.hid (show fwR l = ([], 2) by unfold fwR; rw [if_pos hf])
  by_cases h : 64 < l.length
  · have g1 : decide ((64 : Int) < (l.length : Int)) = true := decide_eq_true (by omega)
    clear hu hf
    go_enter Try.func10, Try.ntmps10
    go_wp2_with fail
    go_ret2
    exact ⟨by rw [HR.out]; rfl, Below.refl _ _⟩
  · have hct := contains_long w a c l (by omega) hu
    have hi : l.findIdx long < l.length := by
      rcases Nat.lt_or_ge (l.findIdx long) l.length with k | k
      · exact k
      · exact absurd (show fitR l = 0 by unfold fitR; rw [if_neg (by omega)]) hf
    rw [decide_eq_true hi] at hct
    have HC := Lib.hid hct
    have g1 : decide ((64 : Int) < (l.length : Int)) = false := decide_eq_false (by omega)
    clear hct hi hf hu
    go_enter Try.func10, Try.ntmps10
    go_wp2_with fail
    refine (HC.out).mono ?_
    rintro e w1 ⟨rfl, rfl⟩
    go_wp2_with fail
    go_ret2
    exact ⟨by rw [HR.out]; rfl, Below.refl _ _⟩

theorem fwrite_any (a : Option Addr) (c : Nat) (l : List (List UInt8)) (w : World) (hu : Txts w w.heap.size a l) :
    Calls Try.prog 10 #[.slice a l.length c] w (FwPost (fwR l) w) := by
  by_cases hf : fitR l = 0
  · exact fwrite_ok a c l w hf hu
  · exact fwrite_bad a c l w hf hu
end Go.Proofs.Ytplhlnlonjlcaaa
