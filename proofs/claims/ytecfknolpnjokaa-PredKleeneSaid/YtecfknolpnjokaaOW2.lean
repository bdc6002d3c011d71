/- The walks of pred.leaf, node, Check. -/
import Derived.Test.YtecfknolpnjokaaOW1
import Derived.Test.YtecfknolpnjokaaQ3
namespace Go.Proofs.Ytecfknolpnjokaa
open Go.RowKit
set_option linter.unusedVariables false

theorem check_none (K : Int) (W : World) : Calls Try.prog 22 #[.int .i64 K, .slice none 0 0] W (CErrPost (if K ≠ 1 ∧ K ≠ 2 then 7 else 0) W) := by
  have h := ncheck_any K none 0 [] W (by simp [maxLen]) (by simp) (Cls.nil _ _ _)
  rw [show C.chk K [] = if K ≠ 1 ∧ K ≠ 2 then 7 else 0 by unfold C.chk; split <;> rfl] at h
  exact h
def oneE (K : Int) (c : C.Cl) : Nat := if K ≠ 1 ∧ K ≠ 2 then 7 else C.cellE K c
theorem chk_one (K : Int) (c : C.Cl) : C.chk K [c] = oneE K c := by
  unfold C.chk oneE
  split
  · rfl
  · rw [if_neg (by simp)]
    unfold C.chkL
    split
    · rfl
    · rename_i h; unfold C.chkL; omega
theorem check_one (K : Int) (c : C.Cl) (hc : cOk c) (W : World) :
    Calls Try.prog 22 #[.int .i64 K, .slice (some ⟨W.heap.size, 0, none⟩) 1 1] (W.alloc (.cells #[.int .i64 c.kind, .int .u64 (c.num : Int), .string (str c.txt)] 38)) (CErrPost (oneE K c) (W.alloc (.cells #[.int .i64 c.kind, .int .u64 (c.num : Int), .string (str c.txt)] 38))) := by
  have h := ncheck_any K (some ⟨W.heap.size, 0, none⟩) 1 [c] (W.alloc (.cells #[.int .i64 c.kind, .int .u64 (c.num : Int), .string (str c.txt)] 38)) (by simp [maxLen]) (by intro x hx; rw [List.mem_singleton.1 hx]; exact hc) (cls_lit W [c])
  rw [chk_one] at h
  exact h

theorem oneE_lt (K : Int) (c : C.Cl) : oneE K c < 9 := by
  unfold oneE C.cellE
  (repeat' split) <;> omega

set_option maxHeartbeats 1000000 in
set_option maxRecDepth 100000 in
theorem leaf_any (c : O.Cd) (a : Option Addr) (cap : Nat) (ks : List Int) (w : World) (hc : dOk c) (hop : 1 ≤ c.op ∧ c.op ≤ 4) (hm : ks.length ≤ maxLen) (hu : Ints w w.heap.size a ks) :
    Calls Try.prog 57 #[dag c, .slice a ks.length cap] w (CErrPost (O.alone ks c) w) := by
  obtain ⟨op, col, k, n, t⟩ := c
  obtain ⟨_, hcol, hcc⟩ := hc
  simp only at hop hcol hcc
  unfold maxLen at hm
  have hA : O.alone ks ⟨op, col, ⟨k, n, t⟩⟩ = if col < 0 ∨ (ks.length : Int) ≤ col then 3
      else if op = 4 then (if ks.getD col.toNat 0 ≠ 1 ∧ ks.getD col.toNat 0 ≠ 2 then 7 else if (⟨k, n, t⟩ : C.Cl) ≠ C.null then 1 else 0)
      else if oneE (ks.getD col.toNat 0) ⟨k, n, t⟩ ≠ 0 then oneE (ks.getD col.toNat 0) ⟨k, n, t⟩ else if k = 0 then 7 else 0 := by
    unfold O.alone oneE
    simp only
    rw [if_neg (by omega), if_neg (by omega)]
    by_cases h1 : col < 0 ∨ (ks.length : Int) ≤ col
    · rw [if_pos h1, if_pos h1]
    · rw [if_neg h1, if_neg h1]
      by_cases h2 : ks.getD col.toNat 0 ≠ 1 ∧ ks.getD col.toNat 0 ≠ 2
      · rw [if_pos h2, if_pos h2, if_pos h2]
        by_cases h4 : op = 4
        · rw [if_pos h4]
        · rw [if_neg h4, if_pos (by omega)]
      · rw [if_neg h2, if_neg h2, if_neg h2]
  rw [hA]
  clear hA
  have hE := empty_any ⟨k, n, t⟩
  have hO := fun K W => check_one K ⟨k, n, t⟩ hcc W
  simp only at hO
  have hOl := fun K => oneE_lt K ⟨k, n, t⟩
  unfold cag at hE
  simp only at hE
  have hp := pen_new w (.int .i64 op) (.int .i64 col) (.int .i64 k) (.int .u64 (n : Int)) (.string (str t))
  have hb0 : Below w.heap.size w (w.alloc (.cells #[.int .i64 op, .int .i64 col, .int .i64 k, .int .u64 (n : Int), .string (str t)] 51)) := (Below.refl _ _).alloc (Nat.le_refl _) _
  unfold dag
  simp only
  generalize str t = X at *
  have HEE := Lib.hid hE
  have HOO := Lib.hid hO
  clear hE hO hcc
  by_cases hbad : col < 0 ∨ (ks.length : Int) ≤ col
  · rw [if_pos hbad]
    rcases hbad with hbad | hbad
    · go_enter Try.func57, Try.ntmps57
      go_wp2_with fail
      go_ret
      exact ⟨rfl, hb0⟩
    · by_cases h0 : col < 0
      · exact absurd h0 (by omega)
      · obtain ⟨j, rfl⟩ : ∃ j : Nat, col = j := ⟨col.toNat, by omega⟩
        have g0 : decide ((j : Int) < 0) = false := by simp
        have g1 : decide ((ks.length : Int) ≤ (j : Int)) = true := by simp; omega
        have g2 : decide (ks.length ≤ j) = true := by simp; omega
        clear h0
        go_enter Try.func57, Try.ntmps57
        go_wp2_with fail
        go_ret
        exact ⟨rfl, hb0⟩
  rw [if_neg hbad]
  obtain ⟨j, rfl⟩ : ∃ j : Nat, col = j := ⟨col.toNat, by omega⟩
  have hj : j < ks.length := by omega
  rw [Int.toNat_natCast]
  obtain ⟨b, off, rfl, hlt, hcell⟩ := hu (by intro e; rw [e] at hj; simp at hj)
  have hk := hcell j hj
  unfold at1 at hk
  rw [Nat.mul_one] at hk
  generalize ks.getD j 0 = K at *
  have hk1 := hb0.cell (p := ⟨b, off + j, none⟩) hlt
  rw [hk] at hk1
  clear hcell hk hbad
  have hOK := hOl K
  clear hOl
  by_cases h4 : op = 4
  · subst h4
    rw [if_pos rfl]
    have HN := Lib.hid (fun W => check_none K W)
    by_cases hK : K ≠ 1 ∧ K ≠ 2
    · rw [if_pos hK]
      rw [if_pos hK] at HN
      clear hK
      go_enter Try.func57, Try.ntmps57
      go_wp2_with fail
      refine (HN.out _).mono ?_
      rintro e w1 ⟨rfl, hb1⟩
      go_wp2_with fail
      go_ret
      exact ⟨rfl, below_then hb0 hb1⟩
    · rw [if_neg hK]
      rw [if_neg hK] at HN
      obtain ⟨er, her⟩ : ∃ er, er = (if (⟨k, n, t⟩ : C.Cl) ≠ C.null then 1 else 0) := ⟨_, rfl⟩
      rw [← her] at HEE ⊢
      clear hK her
      go_enter Try.func57, Try.ntmps57
      go_wp2_with fail
      refine (HN.out _).mono ?_
      rintro e w1 ⟨rfl, hb1⟩
      obtain ⟨c0, c1, c2, c3, c4⟩ := (hp.next hb1).all
      go_wp2_with fail
      refine (HEE.out _).mono ?_
      rintro e w2 ⟨rfl, hb2⟩
      go_wp2_with fail
      go_ret
      exact ⟨rfl, below_then (below_then hb0 hb1) hb2⟩
  · rw [if_neg h4]
    have HO := Lib.hid (show Calls Try.prog 22 #[.int .i64 K, .slice (some ⟨w.heap.size + 1, 0, none⟩) 1 1] ((w.alloc (.cells #[.int .i64 op, .int .i64 j, .int .i64 k, .int .u64 (n : Int), .string X] 51)).alloc (.cells #[.int .i64 k, .int .u64 (n : Int), .string X] 38)) (CErrPost (oneE K ⟨k, n, t⟩) ((w.alloc (.cells #[.int .i64 op, .int .i64 j, .int .i64 k, .int .u64 (n : Int), .string X] 51)).alloc (.cells #[.int .i64 k, .int .u64 (n : Int), .string X] 38))) by
      have h := HOO.out K (w.alloc (.cells #[.int .i64 op, .int .i64 j, .int .i64 k, .int .u64 (n : Int), .string X] 51))
      rwa [show (w.alloc (.cells #[.int .i64 op, .int .i64 j, .int .i64 k, .int .u64 (n : Int), .string X] 51)).heap.size = w.heap.size + 1 by simp] at h)
    clear HOO
    generalize oneE K ⟨k, n, t⟩ = er at *
    have hb1 : Below w.heap.size w ((w.alloc (.cells #[.int .i64 op, .int .i64 j, .int .i64 k, .int .u64 (n : Int), .string X] 51)).alloc (.cells #[.int .i64 k, .int .u64 (n : Int), .string X] 38)) := hb0.alloc (by simp) _
    have hp1 : Pen ((w.alloc (.cells #[.int .i64 op, .int .i64 j, .int .i64 k, .int .u64 (n : Int), .string X] 51)).alloc (.cells #[.int .i64 k, .int .u64 (n : Int), .string X] 38)) w.heap.size (.int .i64 op) (.int .i64 j) (.int .i64 k) (.int .u64 (n : Int)) (.string X) := hp.next ((Below.refl _ _).alloc (Nat.le_refl _) _)
    by_cases he : er = 0
    · subst he
      rw [if_neg (by simp)]
      by_cases hk0 : k = 0
      · subst hk0
        rw [if_pos rfl]
        go_enter Try.func57, Try.ntmps57
        go_wp2_with fail
        refine HO.out.mono ?_
        rintro e w1 ⟨rfl, hb2⟩
        obtain ⟨c0, c1, c2, c3, c4⟩ := (hp1.next hb2).all
        go_wp2_with fail
        go_ret
        exact ⟨rfl, below_then hb1 hb2⟩
      · rw [if_neg hk0]
        go_enter Try.func57, Try.ntmps57
        go_wp2_with fail
        refine HO.out.mono ?_
        rintro e w1 ⟨rfl, hb2⟩
        obtain ⟨c0, c1, c2, c3, c4⟩ := (hp1.next hb2).all
        go_wp2_with fail
        go_ret
        exact ⟨rfl, below_then hb1 hb2⟩
    · rw [if_pos he]
      have g1 : ((er : Int) != 0) = true := by rw [bne_iff_ne]; omega
      go_enter Try.func57, Try.ntmps57
      go_wp2_with fail
      refine HO.out.mono ?_
      rintro e w1 ⟨rfl, hb2⟩
      go_wp2_with fail
      go_ret
      exact ⟨rfl, below_then hb1 hb2⟩

set_option maxHeartbeats 2000000 in
set_option maxRecDepth 100000 in
theorem node_any (c : O.Cd) (a : Option Addr) (cap : Nat) (ks : List Int) (free : Nat) (w : World) (hc : dOk c) (hm : ks.length ≤ maxLen) (hu : Ints w w.heap.size a ks) :
    Calls Try.prog 33 #[dag c, .slice a ks.length cap, .int .i64 free] w (CErrPost (O.nodeE ks free c) w) := by
  have hL := fun (h : 1 ≤ c.op ∧ c.op ≤ 4) W (hb : Below w.heap.size w W) => leaf_any c a cap ks W hc h hm (hu.next at1_firm hb)
  have hE := empty_any c.c
  obtain ⟨op, col, k, n, t⟩ := c
  simp only at hL hE
  have hp := pen_new w (.int .i64 op) (.int .i64 col) (.int .i64 k) (.int .u64 (n : Int)) (.string (str t))
  have hb0 : Below w.heap.size w (w.alloc (.cells #[.int .i64 op, .int .i64 col, .int .i64 k, .int .u64 (n : Int), .string (str t)] 51)) := (Below.refl _ _).alloc (Nat.le_refl _) _
  have hL1 := fun h => hL h _ hb0
  have hP := parts_any op
  by_cases h1 : 1 ≤ op ∧ op ≤ 4
  · have hN : O.nodeE ks free ⟨op, col, ⟨k, n, t⟩⟩ = O.alone ks ⟨op, col, ⟨k, n, t⟩⟩ := by
      unfold O.nodeE
      by_cases h : O.alone ks ⟨op, col, ⟨k, n, t⟩⟩ ≠ 0
      · rw [if_pos h]
      · rw [if_neg h, if_neg (by
          rcases O.parts_cases op with hc | hc | hc
          · rw [hc.1]; omega
          · omega
          · omega)]
        omega
    rw [hN]
    have HL := Lib.hid (hL1 h1)
    generalize O.alone ks ⟨op, col, ⟨k, n, t⟩⟩ = er at *
    unfold dag at HL ⊢
    unfold cag at hE
    simp only at HL hE ⊢
    generalize str t = X at *
    clear hL hL1 hE hP hN hc hu
    have h2 : op = 1 ∨ op = 2 ∨ op = 3 ∨ op = 4 := by omega
    rcases h2 with rfl | rfl | rfl | rfl
    all_goals
      go_enter Try.func33, Try.ntmps33
      go_wp2_with fail
      refine HL.out.mono ?_
      rintro e w1 ⟨rfl, hb1⟩
      go_wp2_with fail
      go_ret
      exact ⟨rfl, below_then hb0 hb1⟩
  by_cases h2 : 5 ≤ op ∧ op ≤ 7
  · have hA : O.nodeE ks free ⟨op, col, ⟨k, n, t⟩⟩ = if col ≠ 0 ∨ free < O.parts op then 1 else if (⟨k, n, t⟩ : C.Cl) ≠ C.null then 1 else 0 := by
      have hAl : O.alone ks ⟨op, col, ⟨k, n, t⟩⟩ = if col ≠ 0 ∨ (⟨k, n, t⟩ : C.Cl) ≠ C.null then 1 else 0 := by
        unfold O.alone
        simp only
        rw [if_neg (by omega), if_pos (by omega)]
      unfold O.nodeE
      rw [hAl]
      simp only
      generalize (⟨k, n, t⟩ : C.Cl) = Z
      by_cases q1 : col = 0 <;> by_cases q2 : Z = C.null <;> by_cases q3 : free < O.parts op <;> simp [q1, q2, q3]
    rw [hA]
    clear hA hL hL1 hc hu
    unfold dag
    unfold cag at hE
    simp only at hE ⊢
    obtain ⟨er, her⟩ : ∃ er, er = (if (⟨k, n, t⟩ : C.Cl) ≠ C.null then 1 else 0) := ⟨_, rfl⟩
    rw [← her] at hE ⊢
    clear her
    generalize str t = X at *
    have HE := Lib.hid hE
    have hp2 := O.parts_le op
    generalize O.parts op = m at *
    have HP := Lib.hid hP
    clear hE hP
    have h3 : op = 5 ∨ op = 6 ∨ op = 7 := by omega
    by_cases q1 : col = 0
    · subst q1
      by_cases q3 : free < m
      · rw [if_pos (Or.inr q3)]
        have g1 : decide (free < m) = true := decide_eq_true q3
        have g2 : decide ((free : Int) < (m : Int)) = true := decide_eq_true (by omega)
        rcases h3 with rfl | rfl | rfl
        all_goals
          go_enter Try.func33, Try.ntmps33
          go_wp2_with fail
          refine (HP.out _).mono ?_
          rintro e w1 ⟨rfl, rfl⟩
          go_wp2_with fail
          go_ret
          exact ⟨rfl, hb0⟩
      · rw [if_neg (by omega)]
        have g1 : decide (free < m) = false := decide_eq_false q3
        have g2 : decide ((free : Int) < (m : Int)) = false := decide_eq_false (by omega)
        rcases h3 with rfl | rfl | rfl
        all_goals
          go_enter Try.func33, Try.ntmps33
          go_wp2_with fail
          refine (HP.out _).mono ?_
          rintro e w1 ⟨rfl, rfl⟩
          go_wp2_with fail
          refine (HE.out _).mono ?_
          rintro e w2 ⟨rfl, hb2⟩
          go_wp2_with fail
          go_ret
          exact ⟨rfl, below_then hb0 hb2⟩
    · rw [if_pos (Or.inl q1)]
      have g1 : (col != 0) = true := by rw [bne_iff_ne]; exact q1
      rcases h3 with rfl | rfl | rfl
      all_goals
        go_enter Try.func33, Try.ntmps33
        go_wp2_with fail
        go_ret
        exact ⟨rfl, hb0⟩
  · have hA : O.nodeE ks free ⟨op, col, ⟨k, n, t⟩⟩ = 7 := by
      have hAl : O.alone ks ⟨op, col, ⟨k, n, t⟩⟩ = 7 := by
        unfold O.alone
        simp only
        rw [if_pos (by omega)]
      unfold O.nodeE
      rw [hAl]
      rfl
    rw [hA]
    clear hA hL hL1 hc hu hE hP
    have n1 : op ≠ 1 := by omega
    have n2 : op ≠ 2 := by omega
    have n3 : op ≠ 3 := by omega
    have n4 : op ≠ 4 := by omega
    have n5 : op ≠ 5 := by omega
    have n6 : op ≠ 6 := by omega
    have n7 : op ≠ 7 := by omega
    clear h1 h2
    unfold dag
    go_enter Try.func33, Try.ntmps33
    go_wp2_with fail
    go_ret
    exact ⟨rfl, hb0⟩

theorem nodeE_lt (ks : List Int) (free : Nat) (c : O.Cd) : O.nodeE ks free c < 9 := by
  unfold O.nodeE O.alone C.cellE
  (repeat' split) <;> omega

set_option maxHeartbeats 2000000 in
set_option maxRecDepth 100000 in
theorem pcheck_any (ap : Option Addr) (cp : Nat) (p : List O.Cd) (a : Option Addr) (cap : Nat) (ks : List Int) (w : World) (hpm : p.length ≤ maxLen) (hpx : ∀ x ∈ p, dOk x) (hpu : Cds w w.heap.size ap p) (hm : ks.length ≤ maxLen) (hu : Ints w w.heap.size a ks) :
    Calls Try.prog 11 #[.slice ap p.length cp, .slice a ks.length cap] w (CErrPost (O.check p ks) w) := by
  have hpm' := hpm
  unfold maxLen at hpm'
  by_cases h16 : 16 < p.length
  · have hR : O.check p ks = 2 := by unfold O.check; rw [if_pos h16]
    have g3 : decide ((16 : Int) < (p.length : Int)) = true := decide_eq_true (by omega)
    rw [hR]
    clear hpx hpu hu hR
    go_enter Try.func11, Try.ntmps11
    go_wp2_with fail
    go_ret
    exact ⟨rfl, Below.refl _ _⟩
  have hR : O.check p ks = O.chk ks 0 (p.drop 0) := by unfold O.check; rw [if_neg h16]; rfl
  obtain ⟨R, hRR⟩ : ∃ R, R = O.check p ks := ⟨_, rfl⟩
  rw [← hRR] at hR ⊢
  have HR0 := Lib.hid hR
  have g3 : decide ((16 : Int) < (p.length : Int)) = false := decide_eq_false (by omega)
  have HSTEP := Lib.hid (fun (j : Nat) (free : Nat) (h : j < p.length) => show O.chk ks free (p.drop j) = if O.nodeE ks free (p.getD j O.nullC) ≠ 0 then O.nodeE ks free (p.getD j O.nullC) else O.chk ks (free + 1 - O.parts (p.getD j O.nullC).op) (p.drop (j + 1)) by
    rw [List.drop_eq_getElem_cons h, O.chk]
    simp only [List.getD, List.getElem?_eq_getElem h, Option.getD_some])
  have HX := Lib.hid (fun (j : Nat) (h : j < p.length) => show dOk (p.getD j O.nullC) by
    simp only [List.getD, List.getElem?_eq_getElem h, Option.getD_some]; exact hpx _ (List.getElem_mem h))
  have HN := Lib.hid (fun (c : O.Cd) (hc : dOk c) (free : Nat) W (hb : Below w.heap.size w W) => node_any c a cap ks free W hc hm (hu.next at1_firm hb))
  have HCE := Lib.hid (fun (j : Nat) (h : j < p.length) => hpu.next at5_firm (Below.refl w.heap.size w))
  have hpu' : ∀ W, Below w.heap.size w W → ∀ j, j < p.length → ∃ b off, ap = some ⟨b, off, none⟩ ∧ at5 W b (off + j * 5) (p.getD j O.nullC) := by
    intro W hb j hj
    obtain ⟨b, off, e, _, hc⟩ := hpu.next at5_firm hb (by intro e; rw [e] at hj; simp at hj)
    exact ⟨b, off, e, hc j hj⟩
  have HPU := Lib.hid hpu'
  clear HCE hpu' hpu hu hpx hm hR hRR
  go_enter Try.func11, Try.ntmps11
  go_wp2_with fail
  go_loopw [5, 14] (fun u i wr => ∃ j f : Nat, j ≤ p.length ∧ f ≤ 2 * j ∧ u = .int .i64 f ∧ i = .int .i64 j ∧ Below w.heap.size w wr ∧ Hid (R = O.chk ks f (p.drop j))) (fun _ i _ => p.length - (intOf i).toNat)
  case atStart => exact ⟨0, 0, by omega, by omega, rfl, rfl, Below.refl _ _, HR0⟩
  case round =>
    obtain ⟨j, f, hj, hf, rfl, rfl, hb, HJ⟩ := hrel
    by_cases hlt : j < p.length
    · obtain ⟨b, off, rfl, c0, c1, c2, c3, c4⟩ := HPU.out wr hb j hlt
      have hst := HSTEP.out j f hlt
      have hx := HX.out j hlt
      have hE := nodeE_lt ks f (p.getD j O.nullC)
      generalize p.getD j O.nullC = x at *
      have HND := Lib.hid (HN.out x hx f)
      have hb1 : Below w.heap.size w (wr.alloc (.cells #[.int .i64 x.op, .int .i64 x.col, .int .i64 x.c.kind, .int .u64 (x.c.num : Int), .string (str x.c.txt)] 51)) := hb.alloc hb.size _
      have hp := pen_new wr (.int .i64 x.op) (.int .i64 x.col) (.int .i64 x.c.kind) (.int .u64 (x.c.num : Int)) (.string (str x.c.txt))
      have HPA := Lib.hid (fun W => parts_any x.op W)
      have hpl := O.parts_le x.op
      obtain ⟨er, her⟩ : ∃ er, er = O.nodeE ks f x := ⟨_, rfl⟩
      have HND := Lib.hid (show Calls Try.prog 33 #[.agg #[.int .i64 x.op, .int .i64 x.col, .int .i64 x.c.kind, .int .u64 (x.c.num : Int), .string (str x.c.txt)], .slice a ks.length cap, .int .i64 f] (wr.alloc (.cells #[.int .i64 x.op, .int .i64 x.col, .int .i64 x.c.kind, .int .u64 (x.c.num : Int), .string (str x.c.txt)] 51)) (CErrPost er (wr.alloc (.cells #[.int .i64 x.op, .int .i64 x.col, .int .i64 x.c.kind, .int .u64 (x.c.num : Int), .string (str x.c.txt)] 51))) by
        rw [her]; exact HND.out _ hb1)
      rw [← her] at hst hE
      have hpz : O.nodeE ks f x = 0 → O.parts x.op ≤ f := fun h => (O.nodeE_zero h).2
      rw [← her] at hpz
      have HJ2 := Lib.hid (HJ.out.trans hst)
      clear her hst HJ hx
      generalize O.parts x.op = m at *
      generalize str x.c.txt = X at *
      generalize x.c.num = xn at *
      generalize x.c.kind = xk at *
      generalize x.op = xo at *
      generalize x.col = xc at *
      by_cases he : er = 0
      · subst he
        have hmf := hpz rfl
        have HN1 := Lib.hid (show R = O.chk ks (f + 1 - m) (p.drop (j + 1)) by rw [HJ2.out, if_neg (by simp)])
        have hw1 : IntKind.i64.wrap (1 - (m : Int)) = 1 - (m : Int) := by rw [IntKind.wrap_i64]; omega
        have hw2 : IntKind.i64.wrap ((f : Int) + (1 - (m : Int))) = ((f + 1 - m : Nat) : Int) := by rw [IntKind.wrap_i64]; omega
        clear hpz
        go_wp2_with fail
        refine HND.out.mono ?_
        rintro e w1 ⟨rfl, hb2⟩
        obtain ⟨d0, d1, d2, d3, d4⟩ := (hp.next hb2).all
        have hb3 := below_then hb1 hb2
        go_wp2_with fail
        refine (HPA.out _).mono ?_
        rintro e w2 ⟨rfl, rfl⟩
        go_wp2_with fail
        exact ⟨⟨j + 1, f + 1 - m, by omega, by omega, by first | rfl | (rw [hw1, hw2]) | (rw [hw2]), by go_num, hb3, HN1⟩, by simp [intOf]; omega⟩
      · have HRE := Lib.hid (show R = er by rw [HJ2.out, if_pos he])
        have g1 : ((er : Int) != 0) = true := by rw [bne_iff_ne]; omega
        clear hpz
        go_wp2_with fail
        refine HND.out.mono ?_
        rintro e w1 ⟨rfl, hb2⟩
        go_wp2_with fail
        go_ret
        exact ⟨by rw [HRE.out]; rfl, below_then hb1 hb2⟩
    · obtain rfl : j = p.length := by omega
      have HRE := Lib.hid (show R = if f ≠ 1 then 1 else 0 by rw [HJ.out, List.drop_length]; rfl)
      by_cases hf1 : f = 1
      · subst hf1
        have HRE := Lib.hid (show R = 0 by rw [HRE.out, if_neg (by simp)])
        go_wp2_with fail
        go_ret
        exact ⟨by rw [HRE.out]; rfl, hb⟩
      · have HRE := Lib.hid (show R = 1 by rw [HRE.out, if_pos hf1])
        have g1 : ((f : Int) != 1) = true := by rw [bne_iff_ne]; omega
        go_wp2_with fail
        go_ret
        exact ⟨by rw [HRE.out]; rfl, hb⟩
end Go.Proofs.Ytecfknolpnjokaa
