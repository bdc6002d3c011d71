/- The law DictLeast. -/
import Derived.Test.YtdabpnpiojmbbaaTL3
namespace Go.Proofs.Ytdabpnpiojmbbaa
open Go.RowKit
set_option linter.unusedVariables false

theorem find_in {l : List (List UInt8)} (hf : fitR l = 0) {x : List UInt8} (hx : x ∈ l) : findR (T.bk l) x = (T.plc (T.bk l) x, true, 0) := by
  obtain ⟨h1, h2⟩ := code_lt hx
  unfold findR
  rw [if_neg (by simp [book_bk hf]), decide_eq_true h1, decide_eq_true h2]; rfl
/-- is it among the first? -/
def seen (l : List (List UInt8)) (x : List UInt8) (k : Nat) : Bool := (l.take k).any fun y => decide (y = x)
theorem seen_zero (l : List (List UInt8)) (x : List UInt8) : seen l x 0 = false := by simp [seen]
theorem seen_succ (l : List (List UInt8)) (x : List UInt8) (k : Nat) (hk : k < l.length) : seen l x (k + 1) = (seen l x k || decide (l.getD k [] = x)) := by
  unfold seen; rw [ttake_succ l k hk, List.any_append]; simp
theorem seen_all (l : List (List UInt8)) (x : List UInt8) (hx : x ∈ l) : seen l x l.length = true := by
  unfold seen; rw [List.take_length]; exact List.any_eq_true.2 ⟨x, hx, by simp⟩

set_option maxHeartbeats 2000000 in
set_option maxRecDepth 100000 in
theorem dictLeast_walk (w : World) (a : Option Addr) (c : Nat) (l : List (List UInt8)) (hm : l.length ≤ maxLen) (hcap : l.length ≤ c ∧ c ≤ maxLen ∧ (a = none → c = 0)) (hx : ∀ x ∈ l, x.length ≤ maxLen) (hu : Txts w w.heap.size a l) :
    Calls Try.prog 7 #[.slice a l.length c] w (BoolPost true w) := by
  have hof := dof_any a c l w hu
  by_cases hf : fitR l ≠ 0
  · rw [ofR_bad hf] at hof
    have HOF := Lib.hid hof
    generalize fitR l = er at *
    have g1 : ((er : Int) != 0) = true := by rw [bne_iff_ne]; omega
    clear hof hf hx
    go_enter Try.func7, Try.ntmps7
    go_wp2_with fail
    refine (HOF.out).mono ?_
    rintro e w1 ⟨a1, c1, a2, c2, rfl, t1, n1, hb1⟩
    go_wp2_with fail
    refine (tbegun_any _).mono ?_
    rintro e w2 ⟨rfl, hb2⟩
    go_wp2_with fail
    go_ret
    exact ⟨rfl, below_then hb1 hb2⟩
  have hf0 : fitR l = 0 := by omega
  have hl64 := (fit_zero hf0).1
  have hbl := bk_length l
  rw [ofR_ok hf0] at hof
  have HOF := Lib.hid hof
  have HFD := Lib.hid (fun W a c j (hj : j < l.length) h => show Calls Try.prog 18 #[.slice a (T.bk l).length c, .string (str (l.getD j []))] W (fun e w' => (∃ p : Nat, e = .returned (.tuple #[.int .i64 p, .bool true, .int .i64 0])) ∧ Below W.heap.size W w') by
    have h := dfind_any a c (T.bk l) (l.getD j []) W h
    rw [find_in hf0 (tmem l j hj)] at h
    exact h.mono fun e w' ⟨he, hb⟩ => ⟨⟨_, he⟩, hb⟩)
  have HUP := Lib.hid (T.bk_up l)
  have HMB := Lib.hid (fun j (hj : j < (T.bk l).length) => (T.bk_mem l _).1 (tmem (T.bk l) j hj))
  have HNE := Lib.hid (fun j (h0 : 0 < j) (hj : j < (T.bk l).length) => show ¬ (T.bk l).getD (j - 1) [] = (T.bk l).getD j [] by
    rw [getD_get _ _ hj, getD_get _ _ (show j - 1 < (T.bk l).length by omega)]
    intro e
    have := T.up_inj (T.bk_up l) (by omega) hj e
    omega)
  have HSS := Lib.hid (fun x k h => seen_succ l x k h)
  have HS0 := Lib.hid (fun x => seen_zero l x)
  have HSA := Lib.hid (fun x h => seen_all l x h)
  generalize l.map (T.plc (T.bk l)) = cs at *
  generalize T.bk l = b at *
  clear hof hf hf0 hx
  have HU := Lib.hid hu
  clear hu
  go_enter Try.func7, Try.ntmps7
  go_wp2_with fail
  refine (HOF.out).mono ?_
  rintro e w1 ⟨a1, c1, a2, c2, rfl, t1, n1, hb1⟩
  go_wp2_with fail
  refine (tbegun_any _).mono ?_
  rintro e w2 ⟨rfl, hb2⟩
  have HB2 := Lib.hid (below_then hb1 hb2)
  have HU2 := Lib.hid (HU.out.next (below_then hb1 hb2))
  have HT2 := Lib.hid (t1.next hb2)
  clear t1 n1 hb1 hb2
  go_wp2_with fail
  go_loopw [6, 7, 8, 9] (fun i _ _ _ wr => ∃ j : Nat, j ≤ l.length ∧ i = .int .i64 j ∧ Below w2.heap.size w2 wr) (fun i _ _ _ _ => l.length - (intOf i).toNat)
  case atStart => exact ⟨0, by omega, rfl, Below.refl _ _⟩
  case round =>
    obtain ⟨j, hj, rfl, hbw⟩ := hrel
    by_cases hlt : j < l.length
    · obtain ⟨bb, off, rfl, hbb, hcc⟩ := HU2.out (fun e => by rw [e] at hlt; simp at hlt)
      have cj := (hbw.cell (p := ⟨bb, off + j, none⟩) hbb).trans (hcc j hlt)
      have HFJ := Lib.hid (fun W a c h => HFD.out W a c j hlt h)
      have hjI : (j : Int) < (l.length : Int) := by omega
      generalize l.getD j [] = x at *
      generalize str x = X at *
      clear hcc
      go_wp2_with fail
      refine (HFJ.out _ _ _ (HT2.out.next hbw)).mono ?_
      rintro e w4 ⟨⟨p, rfl⟩, hb4⟩
      go_wp2_with fail
      exact ⟨⟨j + 1, by omega, by go_num, below_then hbw hb4⟩, by simp [intOf]; omega⟩
    · obtain rfl : j = l.length := by omega
      go_wp2_with fail
      go_loopw [10, 11, 12] (fun i _ _ wr2 => ∃ j : Nat, j ≤ b.length ∧ i = .int .i64 j ∧ Below w2.heap.size w2 wr2) (fun i _ _ _ => b.length - (intOf i).toNat)
      case atStart => exact ⟨0, by omega, rfl, hbw⟩
      case round =>
        obtain ⟨j, hj, rfl, hbw2⟩ := hrel
        by_cases hlt : j < b.length
        · obtain ⟨b1, o1, rfl, hb1l, hcc1⟩ := HT2.out (fun e => by rw [e] at hlt; simp at hlt)
          have cj := hcc1 j hlt
          have cp := hcc1 (j - 1) (by omega)
          have HMJ := Lib.hid (HMB.out j hlt)
          have HNJ := Lib.hid (fun h => HNE.out j h hlt)
          generalize b.getD j [] = x at *
          generalize b.getD (j - 1) [] = z at *
          have hjI : (j : Int) < (b.length : Int) := by omega
          clear hcc1
          go_wp2_with fail
          go_loopw [11, 12] (fun th k wr3 => ∃ m : Nat, m ≤ l.length ∧ k = .int .i64 m ∧ th = .bool (seen l x m) ∧ Below w2.heap.size w2 wr3) (fun _ k _ => l.length - (intOf k).toNat)
          case atStart => exact ⟨0, by omega, rfl, by rw [HS0.out], hbw2⟩
          case round =>
            obtain ⟨m, hm2, rfl, rfl, hbw3⟩ := hrel
            by_cases hlt2 : m < l.length
            · obtain ⟨bb, off, rfl, hbb, hcc⟩ := HU2.out (fun e => by rw [e] at hlt2; simp at hlt2)
              have cm := (hbw3.cell (p := ⟨bb, off + m, none⟩) hbb).trans (hcc m hlt2)
              have cx := (hbw3.cell (p := ⟨b1, o1 + j, none⟩) hb1l).trans cj
              have hss := HSS.out x m hlt2
              have hte := tl_eq (l.getD m []) x
              generalize seen l x m = s0 at *
              generalize decide (l.getD m [] = x) = d at *
              generalize l.getD m [] = y at *
              generalize str x = X at *
              generalize str y = Y at *
              have hmI : (m : Int) < (l.length : Int) := by omega
              have HSQ := Lib.hid hss
              clear hcc hss
              cases s0
              · cases d
                all_goals
                  go_wp2_with fail
                  go_quiet (fail)
                  go_wp2_with fail
                  exact ⟨⟨m + 1, by omega, by go_num, by rw [HSQ.out]; rfl, below_drewN hbw3 _⟩, by simp [intOf]; omega⟩
              · go_wp2_with fail
                go_quiet (fail)
                go_wp2_with fail
                exact ⟨⟨m + 1, by omega, by go_num, by rw [HSQ.out]; rfl, below_drewN hbw3 _⟩, by simp [intOf]; omega⟩
            · obtain rfl : m = l.length := by omega
              rw [HSA.out x HMJ.out]
              by_cases h0 : 0 < j
              · have cx := (hbw3.cell (p := ⟨b1, o1 + j, none⟩) hb1l).trans cj
                have cz := (hbw3.cell (p := ⟨b1, o1 + (j - 1), none⟩) hb1l).trans cp
                have hte := tl_eq z x
                rw [decide_eq_false (HNJ.out h0)] at hte
                generalize str x = X at *
                generalize str z = Z at *
                have hi1 : IntKind.i64.wrap ((j : Int) - 1) = (j : Int) - 1 := by rw [IntKind.wrap_i64]; omega
                have hi2 : (0 : Int) ≤ (j : Int) - 1 := by omega
                have hi3 : ((j : Int) - 1).toNat = j - 1 := by omega
                have hi4 : (j : Int) - 1 < (b.length : Int) := by omega
                have hi6 : (0 : Int) < (j : Int) := by omega
                go_wp2_with fail
                go_quiet (fail)
                go_wp2_with fail
                exact ⟨⟨j + 1, by omega, by go_num, below_drewN hbw3 _⟩, by simp [intOf]; omega⟩
              · obtain rfl : j = 0 := by omega
                go_wp2_with fail
                go_quiet (fail)
                go_wp2_with fail
                exact ⟨⟨1, by omega, by go_num, below_drewN hbw3 _⟩, by simp [intOf]; omega⟩
        · obtain rfl : j = b.length := by omega
          go_wp2_with fail
          go_ret
          exact ⟨rfl, below_then HB2.out hbw2⟩
end Go.Proofs.Ytdabpnpiojmbbaa
