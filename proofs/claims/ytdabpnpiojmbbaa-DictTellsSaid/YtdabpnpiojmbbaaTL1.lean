/- What holds of the book of a list; the law DictBack. -/
import Derived.Test.YtdabpnpiojmbbaaTB
namespace Go.Proofs.Ytdabpnpiojmbbaa
open Go.RowKit
set_option linter.unusedVariables false

theorem fit_of {l : List (List UInt8)} (h1 : l.length ≤ 64) (h2 : ∀ x ∈ l, x.length ≤ 16) : fitR l = 0 := by
  unfold fitR
  rw [if_neg]
  rintro (h | h)
  · omega
  · obtain ⟨h3, h4⟩ := (⟨h, List.findIdx_getElem (w := h)⟩ : ∃ h : l.findIdx long < l.length, long (l[l.findIdx long]) = true)
    have := h2 _ (List.getElem_mem h3)
    simp [long] at h4
    omega
theorem bk_length (l : List (List UInt8)) : (T.bk l).length ≤ l.length := by
  have hsl : (l.mergeSort fun x y => decide (x ≤ y)).length = l.length := List.length_mergeSort l
  rw [← hsl]; exact Lib.compact_length_le _
theorem book_bk {l : List (List UInt8)} (h : fitR l = 0) : bookR (T.bk l) = 0 := by
  obtain ⟨h1, h2⟩ := fit_zero h
  have hl := bk_length l
  have hf : fitR (T.bk l) = 0 := fit_of (by omega) fun x hx => h2 x ((T.bk_mem l x).1 hx)
  unfold bookR
  rw [hf, if_neg (by simp), if_pos ((rise_up _).2 (T.bk_up l))]
theorem code_lt {l : List (List UInt8)} {x : List UInt8} (hx : x ∈ l) : T.plc (T.bk l) x < (T.bk l).length ∧ (T.bk l).getD (T.plc (T.bk l) x) [] = x :=
  T.plc_mem (T.bk_up l) ((T.bk_mem l x).2 hx)
theorem texts_bk {l : List (List UInt8)} (h : fitR l = 0) : textsR (T.bk l) (l.map (T.plc (T.bk l))) = (l, 0) := by
  obtain ⟨h1, h2⟩ := fit_zero h
  unfold textsR
  rw [if_neg (by simp [book_bk h]), if_neg (by simp; omega), if_neg]
  · rw [List.map_map]
    have : l.map ((fun c => (T.bk l).getD c []) ∘ T.plc (T.bk l)) = l.map id := List.map_congr_left fun x hx => (code_lt hx).2
    rw [this, List.map_id]
  · rw [List.any_map, List.any_eq_true]
    rintro ⟨x, hx, hd⟩
    have := (code_lt hx).1
    simp at hd
    omega
theorem ofR_bad {l : List (List UInt8)} (h : fitR l ≠ 0) : ofR l = ([], [], fitR l) := by unfold ofR; rw [if_pos h]
theorem ofR_ok {l : List (List UInt8)} (h : fitR l = 0) : ofR l = (T.bk l, l.map (T.plc (T.bk l)), 0) := by unfold ofR; rw [if_neg (by simp [h])]

set_option maxHeartbeats 1000000 in
set_option maxRecDepth 100000 in
theorem dictBack_walk (w : World) (a : Option Addr) (c : Nat) (l : List (List UInt8)) (hm : l.length ≤ maxLen) (hcap : l.length ≤ c ∧ c ≤ maxLen ∧ (a = none → c = 0)) (hx : ∀ x ∈ l, x.length ≤ maxLen) (hu : Txts w w.heap.size a l) :
    Calls Try.prog 5 #[.slice a l.length c] w (BoolPost true w) := by
  have hof := dof_any a c l w hu
  by_cases hf : fitR l ≠ 0
  · rw [ofR_bad hf] at hof
    have HOF := Lib.hid hof
    generalize fitR l = er at *
    have g1 : ((er : Int) != 0) = true := by rw [bne_iff_ne]; omega
    clear hof hx hf
    go_enter Try.func5, Try.ntmps5
    go_wp2_with fail
    refine (HOF.out).mono ?_
    rintro e w1 ⟨a1, c1, a2, c2, rfl, t1, n1, hb1⟩
    go_wp2_with fail
    refine (tbegun_any _).mono ?_
    rintro e w2 ⟨rfl, hb2⟩
    go_wp2_with fail
    go_ret
    exact ⟨rfl, below_then hb1 hb2⟩
  · have hf0 : fitR l = 0 := by omega
    have hl64 := (fit_zero hf0).1
    rw [ofR_ok hf0] at hof
    have htx := fun W a c a2 c2 h1 h2 => dtexts_any a c (T.bk l) a2 c2 (l.map (T.plc (T.bk l))) W (fun x hx => by
      obtain ⟨y, hy, rfl⟩ := List.mem_map.1 hx
      have h1 := (code_lt hy).1
      have h2 := bk_length l
      omega) h1 h2
    rw [texts_bk hf0] at htx
    have HOF := Lib.hid hof
    have HTX := Lib.hid htx
    have hsm := fun W a' c' h1 h2 => tsame_any a' a c' c l l W W.heap.size h1 h2 (by omega)
    rw [decide_eq_true rfl] at hsm
    have HSM := Lib.hid hsm
    have HML := Lib.hid (show (l.map (T.plc (T.bk l))).length = l.length by simp)
    generalize l.map (T.plc (T.bk l)) = cs at *
    generalize T.bk l = b at *
    clear hof htx hsm hx hf hf0
    go_enter Try.func5, Try.ntmps5
    go_wp2_with fail
    refine (HOF.out).mono ?_
    rintro e w1 ⟨a1, c1, a2, c2, rfl, t1, n1, hb1⟩
    go_wp2_with fail
    refine (tbegun_any _).mono ?_
    rintro e w2 ⟨rfl, hb2⟩
    have h2 := below_then hb1 hb2
    go_wp2_with fail
    refine (HTX.out _ _ _ _ _ (t1.next hb2) (n1.next hb2)).mono ?_
    rintro e w3 ⟨a3, c3, rfl, t3, hb3⟩
    have h3 := below_then h2 hb3
    go_wp2_with fail
    refine (HSM.out _ a3 c3 t3 (hu.next h3)).mono ?_
    rintro e w4 ⟨rfl, hb4⟩
    go_wp2_with fail
    go_ret
    exact ⟨rfl, below_then h3 hb4⟩
end Go.Proofs.Ytdabpnpiojmbbaa
