/- The law CodecBooks. -/
import Derived.Test.YtmiboibadccceaaGreatKB
namespace Go.Proofs.YtmiboibadccceaaGreat
open Go.RowKit
set_option linter.unusedVariables false

theorem drop_turn (l : List (List UInt8)) (r : Nat) (h : r < l.length) : (l.drop (r + 1)).reverse ++ [l.getD r []] = (l.drop r).reverse := by
  rw [List.drop_eq_getElem_cons h, List.reverse_cons]
  simp [List.getD, List.getElem?_eq_getElem h]

set_option maxHeartbeats 2000000 in
set_option maxRecDepth 100000 in
theorem codecBooks_walk (w : World) (a : Option Addr) (c : Nat) (l : List (List UInt8)) (hm : l.length ≤ maxLen) (hcap : l.length ≤ c ∧ c ≤ maxLen ∧ (a = none → c = 0)) (hx : ∀ x ∈ l, x.length ≤ maxLen) (hu : Txts w w.heap.size a l) :
    Calls Tryz.prog 9 #[.slice a l.length c] w (BoolPost true w) := by
  have hN := ktexts_any 6 a c l w hu
  have heq : (str []).toList.isEmpty = true := by rw [str_toList]; rfl
  by_cases hbig : fitR l ≠ 0
  · rw [show txtR 6 l = ([], 2) by unfold txtR; rw [if_neg (by omega), if_pos hbig]] at hN
    have HN := Lib.hid hN
    clear hN hbig hx hcap hm
    go_enter Tryz.func9, Tryz.ntmps9
    go_wp2_with fail
    refine (HN.out).mono ?_
    rintro e w1 ⟨rfl, hb1⟩
    go_wp2_with fail
    refine (kbegun_any _).mono ?_
    rintro e w2 ⟨rfl, hb2⟩
    go_wp2_with fail
    go_ret
    exact ⟨rfl, below_then hb1 hb2⟩
  have hf : fitR l = 0 := Decidable.not_not.1 hbig
  have hl64 := (fit_zero hf).1
  rw [show txtR 6 l = (txB 6 l, 0) by unfold txtR; rw [if_neg (by omega), if_neg hbig]; rfl] at hN
  have hR := fun a2 c2 W (hq : Txts W W.heap.size a2 l.reverse) => ktexts_any 6 a2 c2 l.reverse W hq
  rw [show txtR 6 l.reverse = (txB 6 l.reverse, 0) by unfold txtR; rw [if_neg (by omega), if_neg (by rw [fit_reverse hf]; decide)]; rfl] at hR
  have hsz : (str (txB 6 l.reverse)).size = (str (txB 6 l)).size := by rw [str_size, str_size, book_turned]
  have HR := Lib.hid (fun a2 c2 W (hq : Txts W W.heap.size a2 l.reverse) => show Calls Tryz.prog 17 #[.slice a2 l.length c2, .int .i64 6] W (fun e w' => e = .returned (.tuple #[.string (str (txB 6 l.reverse)), .int .i64 0]) ∧ Below W.heap.size W w') by have h := hR a2 c2 W hq; rw [List.length_reverse] at h; exact h)
  have HN := Lib.hid (show Calls Tryz.prog 17 #[.slice a l.length c, .int .i64 6] w (fun e w' => e = .returned (.tuple #[.string (str (txB 6 l)), .int .i64 0]) ∧ Below w.heap.size w w') from hN)
  have HU := Lib.hid hu
  have HTN := Lib.hid (fun r h => drop_turn l r h)
  generalize str (txB 6 l.reverse) = S at *
  generalize str (txB 6 l) = T at *
  have g9 : ((S.size : Int) == (T.size : Int)) = true := by rw [hsz]; simp
  clear hN hR hbig hx hcap hm hf hsz hu
  go_enter Tryz.func9, Tryz.ntmps9
  go_wp2_with fail
  refine (HN.out).mono ?_
  rintro e w1 ⟨rfl, hb1⟩
  go_wp2_with fail
  refine (kbegun_any _).mono ?_
  rintro e w2 ⟨rfl, hb2⟩
  have hb3 := below_then hb1 hb2
  clear hb1 hb2
  have gw1 : IntKind.i64.wrap ((l.length : Int) - 1) = (l.length : Int) - 1 := by rw [IntKind.wrap_i64]; omega
  go_wp2_with fail
  go_loopw [5, 6] (fun v i wr => ∃ (q : Nat) (I : Int), q ≤ l.length ∧ i = .int .i64 I ∧ I = (q : Int) - 1 ∧ TRow w.heap.size (l.drop q).reverse v wr ∧ Below w.heap.size w wr) (fun _ i _ => (intOf i + 1).toNat)
  case atStart => exact ⟨l.length, (l.length : Int) - 1, by omega, rfl, rfl, by rw [List.drop_length]; exact tnilRow _ _, hb3⟩
  case round =>
    obtain ⟨q, I, hq, rfl, hI, hrow, hbw⟩ := hrel
    by_cases h0 : 0 < q
    · obtain ⟨r, rfl⟩ : ∃ r, q = r + 1 := ⟨q - 1, by omega⟩
      obtain rfl : I = (r : Int) := by omega
      have hr : r < l.length := by omega
      obtain ⟨b1, o1, rfl, hb1l, hcc1⟩ := HU.out (fun e => by rw [e] at hr; simp at hr)
      have cx := (hbw.cell (p := ⟨b1, o1 + r, none⟩) hb1l).trans (hcc1 r hr)
      have HT := Lib.hid (HTN.out r hr)
      have gw2 : IntKind.i64.wrap ((r : Int) - 1) = (r : Int) - 1 := by rw [IntKind.wrap_i64]; omega
      have grI : (r : Int) < (l.length : Int) := by omega
      have gr0 : (0 : Int) ≤ (r : Int) := by omega
      have hlb : ((l.drop (r + 1)).reverse.length + 1) * 16 ≤ 140737488355328 := by simp; omega
      have HMS := Lib.hid (show (((r : Int) - 1) + 1).toNat < ((r : Int) + 1).toNat by omega)
      have HBW := Lib.hid hbw
      generalize (l.drop (r + 1)).reverse = acc at *
      generalize l.getD r [] = y at *
      generalize hd2 : (l.drop r).reverse = acc2 at *
      have HD2 := Lib.hid hd2
      clear hd2
      obtain ⟨a', c', rfl, _⟩ := tRow_txts hrow
      have HROW := Lib.hid hrow
      generalize hY : str y = Y at *
      have HY := Lib.hid hY
      clear hcc1 hI hbw hrow hY hq h0
      go_wp2_with (at_builtin; refine wpList_append_onet rfl (.tmp 27) (.tmp 32) rfl w.heap.size _ acc rfl (HROW.out.alloc_ _) wr.heap.size y rfl (by rw [HY.out]; exact World.cell?_alloc_new _ _ _ _) hlb (by have := HBW.out.size; simp; omega) ?_)
      intro v' w5 hown5 hb5w
      have hbw5 : Below w.heap.size w w5 := (HBW.out.alloc HBW.out.size _).trans hb5w
      go_wp2_with fail
      exact ⟨⟨r, (r : Int) - 1, by omega, rfl, rfl, by rw [HD2.out, ← HT.out]; exact hown5, hbw5⟩, HMS.out⟩
    · obtain rfl : q = 0 := by omega
      have gI : decide ((0 : Int) ≤ I) = false := decide_eq_false (by omega)
      have gI2 : decide (I ≥ (0 : Int)) = false := decide_eq_false (by omega)
      clear hI
      rw [List.drop_zero] at hrow
      have HLM := Lib.hid (show l.reverse.length = l.length by simp)
      generalize l.reverse = m at *
      obtain ⟨a', c', rfl, htx, _, _⟩ := tRow_txts hrow
      have hHR := HR.out a' c' wr htx
      rw [← HLM.out] at hHR
      have HC := Lib.hid hHR
      clear htx hrow hHR
      go_wp2_with fail
      refine (HC.out).mono ?_
      rintro e w4 ⟨rfl, hb4⟩
      go_wp2_with fail
      go_ret
      exact ⟨rfl, below_then hbw hb4⟩
end Go.Proofs.YtmiboibadccceaaGreat
