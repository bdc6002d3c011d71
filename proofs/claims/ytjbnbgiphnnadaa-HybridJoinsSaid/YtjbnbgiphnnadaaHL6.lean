/- The law HybridJoins. -/
import Derived.Test.YtjbnbgiphnnadaaHL5
namespace Go.Proofs.Ytjbnbgiphnnadaa
open Go.RowKit
set_option linter.unusedVariables false

theorem wpList_unguard {P : Program} {ops : Array Oper} {Q : Exit → Act → World → Prop} {a : Act} {w : World} {rest : List Oper} {o : Oper} (hw : Region.wanted o (yielded ops a.tmps) = true)
    (h : wpList P ops Q ({ o with guard := none } :: rest) a w) : wpList P ops Q (o :: rest) a w := by
  unfold wpList at h ⊢
  rw [if_pos hw]
  have hg : Region.wanted { o with guard := none } (yielded ops a.tmps) = true := rfl
  rw [if_pos hg] at h
  exact h

abbrev KC (bb o1 o2 : Nat) (u v : Value) (w W : World) : Prop := W.cell? ⟨bb, o1, none⟩ = some u ∧ W.cell? ⟨bb, o2, none⟩ = some v ∧ Below w.heap.size w W
theorem kc_drew {bb o1 o2 : Nat} {u v : Value} {w W : World} (h : KC bb o1 o2 u v w W) : KC bb o1 o2 u v w W.drew := ⟨h.1, h.2.1, h.2.2.drew⟩
theorem kc_below {bb o1 o2 : Nat} {u v : Value} {w W W' : World} (hk : Below W.heap.size W W') (h : KC bb o1 o2 u v w W) : KC bb o1 o2 u v w W' :=
  have hl := World.block_lt_of_cell? W _ h.1
  ⟨(hk.cell (p := ⟨bb, o1, none⟩) hl).trans h.1, (hk.cell (p := ⟨bb, o2, none⟩) hl).trans h.2.1, below_then h.2.2 hk⟩

set_option maxHeartbeats 4000000 in
set_option maxRecDepth 100000 in
theorem joins_ok (w : World) (a : Option Addr) (c : Nat) (l : List Nat) (hcap : l.length ≤ c ∧ c ≤ maxLen ∧ (a = none → c = 0)) (hu : Nums w w.heap.size a l)
    (a' : Option Addr) (c' : Nat) (m : List Nat) (hcap' : m.length ≤ c' ∧ c' ≤ maxLen ∧ (a' = none → c' = 0)) (hu' : Nums w w.heap.size a' m)
    (n : Nat) (hn : n ≤ 64) (hl : l.length ≤ 64) (hl' : m.length ≤ 64) (hf : ∀ x ∈ l, x < 2 ^ n) (hf' : ∀ x ∈ m, x < 2 ^ n)
    (hw1 : ∀ w, Nums w w.heap.size a l → Calls Try.prog 9 #[.slice a l.length c, .int .i64 (n : Int)] w (PackPost (H.bytes n l, 0) w))
    (hw2 : ∀ w, Nums w w.heap.size a' m → Calls Try.prog 9 #[.slice a' m.length c', .int .i64 (n : Int)] w (PackPost (H.bytes n m, 0) w)) (hb1 : (H.bytes n l).length ≤ 1048576) (hb2 : (H.bytes n m).length ≤ 1048576) :
    Calls Try.prog 6 #[.slice a l.length c, .slice a' m.length c', .int .i64 n] w (BoolPost true w) := by
  obtain ⟨hc1, hc2, hnil⟩ := hcap
  obtain ⟨_, _, hnil'⟩ := hcap'
  unfold maxLen at hc2
  obtain ⟨t1, ht1⟩ : ∃ t1, t1 = str (H.bytes n l) := ⟨_, rfl⟩
  obtain ⟨t2, ht2⟩ : ∃ t2, t2 = str (H.bytes n m) := ⟨_, rfl⟩
  have hs1 : t1.size ≤ 1048576 := by rw [ht1, str_size]; exact hb1
  have hs2 : t2.size ≤ 1048576 := by rw [ht2, str_size]; exact hb2
  have HW1 := Lib.hid (fun w h => show Calls Try.prog 9 #[.slice a l.length c, .int .i64 (n : Int)] w (fun e w' => e = .returned (.tuple #[.string t1, .int .i64 0]) ∧ Below w.heap.size w w') by rw [ht1]; exact hw1 w h)
  have HW2 := Lib.hid (fun w h => show Calls Try.prog 9 #[.slice a' m.length c', .int .i64 (n : Int)] w (fun e w' => e = .returned (.tuple #[.string t2, .int .i64 0]) ∧ Below w.heap.size w w') by rw [ht2]; exact hw2 w h)
  have HJ := Lib.hid (fun (hab : l.length + m.length ≤ 64) (h8 : l.length % 8 = 0) (hrow : ∀ j, j < l.length → H.row (l.drop j) < 8) w => show Calls Try.prog 13 #[.string (t1 ++ t2), .int .i64 ((l.length + m.length : Nat) : Int), .int .i64 n] w (AllPostC (l ++ m, 0) w) by
    have h := hread_any (t1 ++ t2) (l.length + m.length : Nat) n w (by unfold maxLen; simp; omega)
    have e : (t1 ++ t2).data.toList = H.bytes n l ++ H.bytes n m := by rw [ht1, ht2, str_append, str_data]
    rw [e, hread_nat _ _ _ hab hn, read_join n l m hab hf hf' h8 hrow] at h
    exact h)
  have HROW8 := Lib.hid (fun i => row_eight l i)
  have hcat : ¬ 9223372036854775807 < t1.size + t2.size := by omega
  have HU := Lib.hid hu
  have HU' := Lib.hid hu'
  have HNIL := Lib.hid hnil
  have HNIL' := Lib.hid hnil'
  clear ht1 ht2 hw1 hw2 hb1 hb2 hf hf' hu hu' hnil hnil'
  have hsum : ((l.length : Int) + (m.length : Int)) = ((l.length + m.length : Nat) : Int) := by omega
  by_cases h8 : l.length % 8 = 0
  · have g1 : ((l.length : Int) % 8 != 0) = false := by simp; omega
    by_cases hab : 64 < l.length + m.length
    · have g2 : decide ((64 : Int) < (l.length : Int) + (m.length : Int)) = true := by simp; omega
      have g3 : decide (64 < l.length + m.length) = true := by simp; omega
      clear hsum
      go_enter Try.func6, Try.ntmps6
      go_wp2_with fail
      refine (HW1.out _ HU.out).mono ?_
      rintro e w1 ⟨rfl, hb1⟩
      go_wp2_with fail
      refine (HW2.out _ (HU'.out.next hb1)).mono ?_
      rintro e w2 ⟨rfl, hb2⟩
      have h2 := below_then hb1 hb2
      go_wp2_with fail
      refine (hbegun_any _).mono ?_
      rintro e w3 ⟨rfl, hb3⟩
      go_wp2_with fail
      go_ret
      exact ⟨rfl, below_then h2 hb3⟩
    · have g2 : decide ((64 : Int) < (l.length : Int) + (m.length : Int)) = false := by simp; omega
      have g3 : decide (64 < l.length + m.length) = false := by simp; omega
      have HJ2 := Lib.hid (fun hrow => HJ.out (by omega) h8 hrow)
      clear hsum
      go_enter Try.func6, Try.ntmps6
      go_wp2_with fail
      refine (HW1.out _ HU.out).mono ?_
      rintro e w1 ⟨rfl, hb1⟩
      go_wp2_with fail
      refine (HW2.out _ (HU'.out.next hb1)).mono ?_
      rintro e w2 ⟨rfl, hb2⟩
      have h2 := below_then hb1 hb2
      go_wp2_with fail
      refine (hbegun_any _).mono ?_
      rintro e w3 ⟨rfl, hb3⟩
      have h3 := below_then h2 hb3
      go_wp2_with fail
      go_loopw [11] (fun i wr => ∃ j : Nat, j ≤ l.length ∧ i = .int .i64 j ∧ Hid (∀ q, q < j → H.row (l.drop q) < 8) ∧ Below w.heap.size w wr) (fun i _ => l.length - (intOf i).toNat)
      case atStart => exact ⟨0, by omega, rfl, Lib.hid (fun q hq => by omega), h3⟩
      case round =>
        obtain ⟨j, hj, rfl, HQ, hbw⟩ := hrel
        by_cases hjl : j < l.length
        · obtain ⟨bb, off, rfl, hbb, hcc⟩ := HU.out (fun e => by rw [e] at hjl; simp at hjl)
          have hj8 : IntKind.i64.wrap ((j : Int) + 8) = (j : Int) + 8 := by rw [IntKind.wrap_i64]; omega
          by_cases hk : j + 8 ≤ l.length
          · have cj := (hbw.cell (p := ⟨bb, off + j, none⟩) hbb).trans (hcc j hjl)
            have cj7 := (hbw.cell (p := ⟨bb, off + (j + 7), none⟩) hbb).trans (hcc (j + 7) (by omega))
            have g4 : decide ((j : Int) + 8 ≤ (l.length : Int)) = true := by simp; omega
            have hj7 : IntKind.i64.wrap ((j : Int) + 8 - 1) = ((j + 7 : Nat) : Int) := by rw [IntKind.wrap_i64]; omega
            have hnum8 : Nums w w.heap.size (some ⟨bb, off + j, none⟩) ((l.drop j).take 8) := ((HU.out.drop j).take 8)
            have hnl8 : ((l.drop j).take 8).length = 8 := by rw [List.length_take, List.length_drop]; omega
            have HR8 := Lib.hid (HROW8.out j)
            obtain ⟨j7, hj7e⟩ : ∃ j7, j7 = j + 7 := ⟨_, rfl⟩
            rw [← hj7e] at cj7 hj7 HR8
            have hi7a : (0 : Int) ≤ (j7 : Int) := by omega
            have hi7b : (j7 : Int) < (l.length : Int) := by omega
            have hi0 : (0 : Int) ≤ (j : Int) := by omega
            have hi1 : (j : Int) < (l.length : Int) := by omega
            have hpm : j + 8 - j = 8 := by omega
            have hpt : ((j : Int) + 8).toNat = j + 8 := by omega
            have hp8 : (0 : Int) ≤ (j : Int) + 8 := by omega
            have hpq : (j : Int) ≤ (j : Int) + 8 := by omega
            have hqc : (j : Int) + 8 ≤ (c : Int) := by omega
            have hcp : ¬ c = j := by omega
            have HQN := Lib.hid (show ¬ 8 ≤ H.row (l.drop j) → ∀ q, q < j + 1 → H.row (l.drop q) < 8 from fun hh q hq => by
              rcases Nat.lt_or_ge q j with h | h
              · exact HQ.out q h
              · obtain rfl : q = j := by omega
                omega)
            have HSM := Lib.hid (fun W a3 c3 c8 (hb : Below w.heap.size w W) (h3 : Nums W W.heap.size a3 (List.replicate 8 (l.getD j 0))) => show Calls Try.prog 15 #[.slice (some ⟨bb, off + j, none⟩) 8 c8, .slice a3 8 c3] W (BoolPost (decide ((l.drop j).take 8 = List.replicate 8 (l.getD j 0))) W) by
              have h := same_any (some ⟨bb, off + j, none⟩) a3 c8 c3 ((l.drop j).take 8) (List.replicate 8 (l.getD j 0)) W W.heap.size (hnum8.next hb) h3 (by omega)
              rw [hnl8, List.length_replicate] at h
              exact h)
            have HREP := Lib.hid (fun W => show Calls Try.prog 16 #[.int .u64 (l.getD j 0 : Nat), .int .i64 8] W (fun e w' => ∃ a3 c3, e = .returned (.slice a3 8 c3) ∧ Nums w' w'.heap.size a3 (List.replicate 8 (l.getD j 0)) ∧ Below W.heap.size W w') by
              have h := repeated_any (l.getD j 0) 8 W (by omega)
              unfold NumsOnly at h
              rw [List.length_replicate] at h
              exact h)
            by_cases hq : l.getD j 0 = l.getD j7 0
            · rw [← hq] at cj7
              by_cases he : (l.drop j).take 8 = List.replicate 8 (l.getD j 0)
              · rw [decide_eq_true he] at HSM
                generalize l.getD j 0 = x at *
                clear he hq hnum8 hnl8 hcc hj7e
                go_wp2_with fail
                go_region_held3 (fun W => W.cell? ⟨bb, off + j, none⟩ = some (.int .u64 (x : Int)) ∧ W.cell? ⟨bb, off + j7, none⟩ = some (.int .u64 (x : Int)) ∧ Below w.heap.size w W)
                  (first
                    | (refine kc_drew ?_; first | assumption | (refine ⟨?_, ?_, ?_⟩ <;> assumption))
                    | (refine kc_below hb4 ?_; first | assumption | (refine ⟨?_, ?_, ?_⟩ <;> assumption))
                    | (refine kc_below hb5 ?_; first | assumption | (refine ⟨?_, ?_, ?_⟩ <;> assumption)))
                  (first
                    | (go_at_call 16; refine (HREP.out _).mono ?_; rintro e w4 ⟨a3, c3, rfl, hn3, hb4⟩)
                    | (go_at_call 15; refine (HSM.out _ _ _ _ (below_then hbw.drew hb4) hn3).mono ?_; rintro e w5 ⟨rfl, hb5⟩))
                all_goals
                  go_wp2_with fail
                  go_ret
                  exact ⟨rfl, below_then (below_then hbw.drew hb4) hb5⟩
              · rw [decide_eq_false he] at HSM
                have HQ2 := Lib.hid (HQN.out (fun h => he (HR8.out h).2.2))
                generalize l.getD j 0 = x at *
                clear he hq hnum8 hnl8 hcc hj7e
                go_wp2_with fail
                go_region_held3 (fun W => W.cell? ⟨bb, off + j, none⟩ = some (.int .u64 (x : Int)) ∧ W.cell? ⟨bb, off + j7, none⟩ = some (.int .u64 (x : Int)) ∧ Below w.heap.size w W)
                  (first
                    | (refine kc_drew ?_; first | assumption | (refine ⟨?_, ?_, ?_⟩ <;> assumption))
                    | (refine kc_below hb4 ?_; first | assumption | (refine ⟨?_, ?_, ?_⟩ <;> assumption))
                    | (refine kc_below hb5 ?_; first | assumption | (refine ⟨?_, ?_, ?_⟩ <;> assumption)))
                  (first
                    | (go_at_call 16; refine (HREP.out _).mono ?_; rintro e w4 ⟨a3, c3, rfl, hn3, hb4⟩)
                    | (go_at_call 15; refine (HSM.out _ _ _ _ (below_then hbw.drew hb4) hn3).mono ?_; rintro e w5 ⟨rfl, hb5⟩))
                all_goals
                  go_wp2_with fail
                  exact ⟨⟨j + 1, by omega, by go_num, HQ2, below_then (below_then hbw.drew hb4) hb5⟩, by simp [intOf]; omega⟩
            · have HQ2 := Lib.hid (HQN.out (fun h => hq (HR8.out h).2.1))
              have g5 : (((l.getD j 0 : Nat) : Int) == ((l.getD j7 0 : Nat) : Int)) = false := by rw [beq_eq_false_iff_ne]; omega
              generalize l.getD j 0 = x at *
              generalize l.getD j7 0 = y at *
              clear hq hnum8 hnl8 hcc hj7e
              go_wp2_with fail
              go_quiet (fail)
              go_wp2_with fail
              exact ⟨⟨j + 1, by omega, by go_num, HQ2, below_drewN hbw _⟩, by simp [intOf]; omega⟩
          · have g4 : decide ((j : Int) + 8 ≤ (l.length : Int)) = false := by simp; omega
            have HQ2 := Lib.hid (show ∀ q, q < j + 1 → H.row (l.drop q) < 8 from fun q hq => by
              rcases Nat.lt_or_ge q j with h | h
              · exact HQ.out q h
              · obtain rfl : q = j := by omega
                rcases Nat.lt_or_ge (H.row (l.drop q)) 8 with h' | h'
                · exact h'
                · exact absurd (HROW8.out q h').1 hk)
            clear hcc
            go_wp2_with fail
            go_quiet (fail)
            go_wp2_with fail
            exact ⟨⟨j + 1, by omega, by go_num, HQ2, below_drewN hbw _⟩, by simp [intOf]; omega⟩
        · obtain rfl : j = l.length := by omega
          have HRD := Lib.hid (fun w => show Calls Try.prog 13 #[.string (t1 ++ t2), .int .i64 ((l.length : Int) + (m.length : Int)), .int .i64 n] w (AllPostC (l ++ m, 0) w) by
            have h := HJ2.out HQ.out w
            rwa [Int.natCast_add] at h)
          go_wp2_with fail
          refine (HRD.out _).mono ?_
          rintro e w4 ⟨a5, c5, rfl, hn5, _, _, hb4⟩
          have hbw4 := below_then hbw hb4
          have hown0 : (w4.alloc (.cells #[] 33)).ownsRow w4.heap.size 33 1 (.slice (some ⟨w4.heap.size, 0, none⟩) 0 0) 0 [] :=
            ⟨by simp, Or.inr ⟨w4.heap.size, 0, #[], rfl, Nat.le_refl _, heap_alloc_new w4 _, Nat.le_refl _, by unfold maxLen; omega, rfl, rfl⟩⟩
          have hb5 : Below w.heap.size w (w4.alloc (.cells #[] 33)) := hbw4.alloc hbw4.size _
          go_wp2_with (at_builtin; refine wpList_unguard (by rfl) (wpList_append_nums rfl (.tmp 102) (.tmp 103) rfl w4.heap.size _ 0 _ rfl hown0 a l.length c l rfl rfl HNIL.out (HU.out.next hb5) (by omega) (by simp) ?_))
          intro v6 w6 hown6 hg6
          have hb6 : Below w.heap.size w w6 := hb5.grown hg6 (by simp; have := hbw4.size; omega) (fun k hk => by have := (hown0.lt k hk).1; have := hbw4.size; omega)
          have hs6 : w4.heap.size ≤ w6.heap.size := by have := hg6.size; simp at this; omega
          have hb56 : Below w4.heap.size w4 w6 := ((Below.refl _ _).alloc (Nat.le_refl _) _).grown hg6 (by simp) (fun k hk => (hown0.lt k hk).1)
          go_wp2_with (at_builtin; refine wpList_unguard (by rfl) (wpList_append_nums rfl (.tmp 104) (.tmp 105) rfl w4.heap.size _ l.length _ rfl hown6 a' m.length c' m rfl rfl HNIL'.out (HU'.out.next hb6) (by omega) hs6 ?_))
          intro v7 w7 hown7 hg7
          have hb7 : Below w.heap.size w w7 := hb6.grown hg7 hb6.size (fun k hk => by have := (hown6.lt k hk).1; have := hbw4.size; omega)
          have hb57 : Below w4.heap.size w4 w7 := hb56.grown hg7 hb56.size (fun k hk => (hown6.lt k hk).1)
          have hnr : NumRow w4.heap.size (l ++ m) v7 w7 := by
            unfold NumRow; rw [List.length_append]; simpa [nv] using hown7
          obtain ⟨a7, c7, hv7, hn7⟩ := numRow_nums hnr
          rw [hv7]
          have hsm := same_any a5 a7 c5 c7 (l ++ m) (l ++ m) w7 w7.heap.size (hn5.next hb57) hn7 (by rw [List.length_append]; omega)
          rw [decide_eq_true rfl, List.length_append] at hsm
          rw [List.length_append]
          have HSM := Lib.hid hsm
          clear hv7 hown0 hown6 hown7 hg6 hg7 hnr hsm hn5
          go_wp2_with fail
          refine (HSM.out).mono ?_
          rintro e w8 ⟨rfl, hb8⟩
          go_wp2_with fail
          go_ret
          exact ⟨rfl, below_then hb7 hb8⟩
  · have g1 : ((l.length : Int) % 8 != 0) = true := by rw [bne_iff_ne]; omega
    go_enter Try.func6, Try.ntmps6
    go_wp2_with fail
    refine (HW1.out _ HU.out).mono ?_
    rintro e w1 ⟨rfl, hb1⟩
    go_wp2_with fail
    refine (HW2.out _ (HU'.out.next hb1)).mono ?_
    rintro e w2 ⟨rfl, hb2⟩
    have h2 := below_then hb1 hb2
    go_wp2_with fail
    refine (hbegun_any _).mono ?_
    rintro e w3 ⟨rfl, hb3⟩
    go_wp2_with fail
    go_ret
    exact ⟨rfl, below_then h2 hb3⟩

set_option maxHeartbeats 1000000 in
set_option maxRecDepth 100000 in
theorem joins_bad (w : World) (a : Option Addr) (c : Nat) (l : List Nat) (a' : Option Addr) (c' : Nat) (m : List Nat) (wide : Int) (hu' : Nums w w.heap.size a' m) (t1 t2 : List UInt8) (e1 e2 : Nat) (he : e1 ≠ 0 ∨ e2 ≠ 0)
    (hw1 : Calls Try.prog 9 #[.slice a l.length c, .int .i64 wide] w (PackPost (t1, e1) w))
    (hw2 : ∀ w, Nums w w.heap.size a' m → Calls Try.prog 9 #[.slice a' m.length c', .int .i64 wide] w (PackPost (t2, e2) w)) :
    Calls Try.prog 6 #[.slice a l.length c, .slice a' m.length c', .int .i64 wide] w (BoolPost true w) := by
  have HW1 := Lib.hid hw1
  have HW2 := Lib.hid hw2
  clear hw1 hw2
  by_cases h1 : e1 = 0
  · have h2 : e2 ≠ 0 := by omega
    have g1 : ((e2 : Int) != 0) = true := by rw [bne_iff_ne]; omega
    subst h1
    go_enter Try.func6, Try.ntmps6
    go_wp2_with fail
    refine (HW1.out).mono ?_
    rintro e w1 ⟨rfl, hb1⟩
    go_wp2_with fail
    refine (HW2.out _ (hu'.next hb1)).mono ?_
    rintro e w2 ⟨rfl, hb2⟩
    have h2 := below_then hb1 hb2
    go_wp2_with fail
    refine (hbegun_any _).mono ?_
    rintro e w3 ⟨rfl, hb3⟩
    go_wp2_with fail
    go_ret
    exact ⟨rfl, below_then h2 hb3⟩
  · have g1 : ((e1 : Int) != 0) = true := by rw [bne_iff_ne]; omega
    go_enter Try.func6, Try.ntmps6
    go_wp2_with fail
    refine (HW1.out).mono ?_
    rintro e w1 ⟨rfl, hb1⟩
    go_wp2_with fail
    refine (HW2.out _ (hu'.next hb1)).mono ?_
    rintro e w2 ⟨rfl, hb2⟩
    have h2 := below_then hb1 hb2
    go_wp2_with fail
    refine (hbegun_any _).mono ?_
    rintro e w3 ⟨rfl, hb3⟩
    go_wp2_with fail
    go_ret
    exact ⟨rfl, below_then h2 hb3⟩

theorem hybridJoins_walk (w : World) (a : Option Addr) (c : Nat) (l : List Nat) (hm : l.length ≤ maxLen) (hcap : l.length ≤ c ∧ c ≤ maxLen ∧ (a = none → c = 0)) (hx : ∀ x ∈ l, x < 18446744073709551616) (hu : Nums w w.heap.size a l)
    (a' : Option Addr) (c' : Nat) (m : List Nat) (hm' : m.length ≤ maxLen) (hcap' : m.length ≤ c' ∧ c' ≤ maxLen ∧ (a' = none → c' = 0)) (hx' : ∀ x ∈ m, x < 18446744073709551616) (hu' : Nums w w.heap.size a' m)
    (wide : Int) (hw : -9223372036854775808 ≤ wide ∧ wide ≤ 9223372036854775807) :
    Calls Try.prog 6 #[.slice a l.length c, .slice a' m.length c', .int .i64 wide] w (BoolPost true w) := by
  have hw1 := fun w hu => hwrite_any a c l wide w hcap.1 hcap.2.1 hx hu
  have hw2 := fun w hu => hwrite_any a' c' m wide w hcap'.1 hcap'.2.1 hx' hu
  rcases hwrite_cases l wide with ⟨er, he, hr⟩ | ⟨n, rfl, hn, hl, hf, hr, hlen⟩
  · have h1 := hw1 w hu
    rw [hr] at h1
    exact joins_bad w a c l a' c' m wide hu' [] (hwriteR m wide).1 er (hwriteR m wide).2 (Or.inl he) h1 hw2
  · rcases hwrite_cases m n with ⟨er, he, hr2⟩ | ⟨n2, hn2, _, hl2, hf2, hr2, hlen2⟩
    · rw [hr2] at hw2
      exact joins_bad w a c l a' c' m n hu' (hwriteR l n).1 [] (hwriteR l n).2 er (Or.inr he) (hw1 w hu) hw2
    · obtain rfl : n = n2 := by omega
      rw [hr] at hw1
      rw [hr2] at hw2
      exact joins_ok w a c l hcap hu a' c' m hcap' hu' n hn hl hl2 hf hf2 hw1 hw2 hlen hlen2
end Go.Proofs.Ytjbnbgiphnnadaa
