/- The walk of patch.Read. -/
import Derived.Test.YtpjmpbpbfjemdaaPW5
namespace Go.Proofs.Ytpjmpbpbfjemdaa
open Go.RowKit
set_option linter.unusedVariables false

theorem grown_setC (W : World) (g k : Nat) (v : Value) : W.grownBy (W.setCell ⟨g, k, none⟩ v) (some g) :=
  ⟨rfl, rfl, rfl, by simp [World.setCell], fun j hj hne => by
    have hne' : ¬ g = j := fun e => hne (by rw [e])
    simp [World.setCell, Array.getElem?_modify, hne']⟩

theorem head_facts (s : List UInt8) (many : Nat) : (P.head s many).1 < 18446744073709551616 ∧ (P.head s many).2.2.1.length ≤ many := by
  unfold P.head
  split
  · simp
  · rename_i h
    obtain ⟨n, k, hr⟩ : ∃ n k, V.rd s = (n, k, 0) := ⟨(V.rd s).1, (V.rd s).2.1, by rw [← Classical.not_not.1 h]⟩
    obtain ⟨_, _, _, k4, _, _⟩ := V.rd_ok _ _ _ hr
    rw [hr]
    simp only
    split
    · simp
    · split
      · simp
      · split
        · simp
        · split
          · simp
          · exact ⟨k4, by simp only [B.dg_length]; exact Nat.le_refl _⟩
theorem pparse_facts (s : List UInt8) (many : Nat) : (pparseR s many).1 < 18446744073709551616 ∧ (pparseR s many).2.1.length ≤ many := by
  obtain ⟨h1, h2⟩ := head_facts s many
  unfold pparseR
  split
  · simp
  · exact ⟨h1, by simp only [P.mend_length]; exact h2⟩
theorem plc_any (p : Nat → Bool) (l : List Nat) : ∀ k, (P.plc p k l).length = 0 ↔ l.any p = false := by
  induction l with
  | nil => intro k; simp [P.plc]
  | cons x t ih =>
    intro k
    simp only [P.plc, List.any_cons]
    by_cases h : p x = true
    · simp [h]
    · have h' : p x = false := by simpa using h
      rw [if_neg h, ih (k + 1), h', Bool.false_or]

theorem add_step (xs : List Nat) (b j : Nat) (hj : j < xs.length) :
    ((xs.take j).map (fun n => n + b) ++ xs.drop j).set j (xs.getD j 0 + b) = (xs.take (j + 1)).map (fun n => n + b) ++ xs.drop (j + 1) := by
  have hl : ((xs.take j).map fun n => n + b).length = j := by simp; omega
  have e : xs.take (j + 1) = xs.take j ++ [xs.getD j 0] := by
    rw [List.take_succ_eq_append_getElem hj]; simp [List.getD, List.getElem?_eq_getElem hj]
  rw [List.set_append_right _ _ (by omega), hl, Nat.sub_self, List.drop_eq_getElem_cons hj, List.set_cons_zero, e, List.map_append, List.append_assoc]
  rfl
theorem add_at (xs : List Nat) (b j : Nat) (hj : j < xs.length) : ((xs.take j).map (fun n => n + b) ++ xs.drop j).getD j 0 = xs.getD j 0 := by
  have hl : ((xs.take j).map fun n => n + b).length = j := by simp; omega
  rw [List.getD_eq_getElem?_getD, List.getElem?_append_right (by omega), hl, Nat.sub_self, List.drop_eq_getElem_cons hj]
  simp [List.getD, List.getElem?_eq_getElem hj]
theorem add_len (xs : List Nat) (b j : Nat) (hj : j ≤ xs.length) : ((xs.take j).map (fun n => n + b) ++ xs.drop j).length = xs.length := by simp; omega

set_option maxHeartbeats 2000000 in
set_option maxRecDepth 100000 in
theorem pread_in (s : ByteArray) (many : Nat) (w : World) (hs : s.size ≤ maxLen) (hm : many ≤ 64) :
    Calls Try.prog 33 #[.string s, .int .i64 many] w (AllPost (P.readN s.data.toList many) w) := by
  have hmf : ∀ (fn : Fn) (first cap : Array Value) (w : World), (Instr.makeFunc fn first cap).run Try.prog w = .ok (.func fn first cap) w := fun _ _ _ _ => rfl
  have HP := Lib.hid (fun W => pparse_any s many W hs hm)
  obtain ⟨f1, f2⟩ := pparse_facts s.data.toList many
  rw [pread_eq]
  generalize pparseR s.data.toList many = p at *
  obtain ⟨b, xs, er⟩ := p
  simp only at f1 f2 ⊢
  have g1 : decide ((many : Int) < 0) = false := decide_eq_false (by omega)
  have g2 : decide ((64 : Int) < (many : Int)) = false := decide_eq_false (by omega)
  by_cases he : er ≠ 0
  · rw [if_pos he]
    have g3 : ((er : Int) != 0) = true := by rw [bne_iff_ne]; omega
    go_enter Try.func33, Try.ntmps33
    go_wp2_with fail
    refine (HP.out _).mono ?_
    rintro e1 w1 ⟨A, N, c, rfl, hN, hr, hb⟩
    go_wp2_with fail
    go_ret2
    exact ⟨none, 0, rfl, Nums.nil _ _ _, hb.alloc hb.size _⟩
  obtain rfl : er = 0 := by omega
  rw [if_neg he]
  have hpl := plc_any (over b) xs 0
  have HPR := Lib.hid (fun C W hB A c' h => places_r C b W hB f1 A c' xs (by omega) h)
  have HST := Lib.hid (fun j h => add_step xs b j h)
  have HAT := Lib.hid (fun j h => add_at xs b j h)
  have HLN := Lib.hid (fun j h => add_len xs b j h)
  have HOV := Lib.hid (fun j (hj : j < xs.length) (ha : xs.any (over b) = false) => show xs.getD j 0 + b < 18446744073709551616 by
    have := List.any_eq_false.1 ha _ (getD_mem xs j hj)
    unfold over at this
    rw [decide_eq_true_iff] at this
    omega)
  have hfin : P.fin b (xs, 0) = if xs.any (over b) = true then ([], 8) else (xs.map fun n => n + b, 0) := rfl
  rw [hfin]
  have HDR : xs.drop xs.length = [] := List.drop_length
  have HEND := Lib.hid (show (xs.take xs.length).map (fun n => n + b) ++ xs.drop xs.length = xs.map fun n => n + b by rw [List.take_length, HDR, List.append_nil])
  have H0 := Lib.hid (show (xs.take 0).map (fun n => n + b) ++ xs.drop 0 = xs by simp)
  have HML := Lib.hid (show (xs.map fun n => n + b).length = xs.length by simp)
  clear HDR hfin he
  by_cases ha : xs.any (over b) = true
  · rw [if_pos ha]
    have hpn : (P.plc (over b) 0 xs).length ≠ 0 := fun h => by rw [hpl] at h; rw [h] at ha; simp at ha
    generalize P.plc (over b) 0 xs = ps at *
    have g3 : 0 < ps.length := by omega
    clear hpl ha hpn
    go_enter Try.func33, Try.ntmps33
    go_wp2_with fail
    refine (HP.out _).mono ?_
    rintro e1 w1 ⟨A, N, c, rfl, hN, hr, hb⟩
    subst hN
    go_wp2_with fail
    have hb2 : Below w1.heap.size w1 (w1.alloc (.cells #[.int .u64 (b : Int)] 23)) := (Below.refl _ _).alloc (Nat.le_refl _) _
    obtain ⟨a', c', hev, hnum⟩ := numRow_nums hr
    obtain ⟨rfl, -, rfl⟩ : A = a' ∧ xs.length = xs.length ∧ c = c' := by injection hev with h1 h2 h3; exact ⟨h1, h2, h3⟩
    refine (HPR.out w1.heap.size _ (heap_alloc_new w1 _) A c (hnum.next hb2)).mono ?_
    rintro e2 w2 ⟨a2, c2, rfl, _, hb3⟩
    have h3 := below_then hb (below_then hb2 hb3)
    clear hev
    have g4 : decide ((0 : Int) < (ps.length : Int)) = true := decide_eq_true (by omega)
    go_wp2_with fail
    go_ret2
    exact ⟨none, 0, rfl, Nums.nil _ _ _, h3⟩
  rw [if_neg ha]
  have ha' : xs.any (over b) = false := by simpa using ha
  have hpn := hpl.2 ha'
  have HPN := Lib.hid hpn
  have HOV2 := Lib.hid (fun j h => HOV.out j h ha')
  generalize P.plc (over b) 0 xs = ps at *
  clear hpl ha ha' HOV hpn
  go_enter Try.func33, Try.ntmps33
  go_wp2_with fail
  refine (HP.out _).mono ?_
  rintro e1 w1 ⟨A, N, c, rfl, hN, hr, hb⟩
  subst hN
  have hb2 : Below w1.heap.size w1 (w1.alloc (.cells #[.int .u64 (b : Int)] 23)) := (Below.refl _ _).alloc (Nat.le_refl _) _
  obtain ⟨a', c', hev, hnum⟩ := numRow_nums hr
  obtain ⟨rfl, -, rfl⟩ : A = a' ∧ xs.length = xs.length ∧ c = c' := by injection hev with h1 h2 h3; exact ⟨h1, h2, h3⟩
  clear hev
  go_wp2_with fail
  refine (HPR.out w1.heap.size _ (heap_alloc_new w1 _) A c (hnum.next hb2)).mono ?_
  rintro e2 w2 ⟨a2, c2, rfl, _, hb3⟩
  have h23 := below_then hb2 hb3
  have h3 := below_then hb h23
  rw [HPN.out]
  have hr2 := hr.below h23
  have hbox : Boxed w2 w1.heap.size 23 (.int .u64 b) := (hb3.block w1.heap.size (by simp)).trans (heap_alloc_new w1 _)
  have HR1 := Lib.hid hr
  obtain ⟨C, hC⟩ : ∃ C, C = w1.heap.size := ⟨_, rfl⟩
  have HC := Lib.hid hC
  rw [← hC] at hbox ⊢
  have hCw : w.heap.size ≤ C := by have := hb.size; omega
  clear hr hnum hC
  go_wp2_with fail
  go_loopw [10, 33] (fun _ i wr => ∃ j : Nat, j ≤ xs.length ∧ i = .int .i64 j ∧ NumRow w.heap.size ((xs.take j).map (fun n => n + b) ++ xs.drop j) (.slice A xs.length c) wr ∧ Boxed wr C 23 (.int .u64 b) ∧ Below w.heap.size w wr) (fun _ i _ => xs.length - (intOf i).toNat)
  case atStart => exact ⟨0, by omega, rfl, by rw [H0.out]; exact hr2, hbox, h3⟩
  case round =>
    obtain ⟨j, hj, rfl, hnr, hbx, hbw⟩ := hrel
    by_cases hlt : j < xs.length
    · obtain ⟨g, rfl, hcl, hgw, hgs⟩ := HR1.out.form (fun e => by rw [e] at hlt; simp at hlt)
      have hln := HLN.out j hj
      have cj := hnr.cell j (by omega)
      rw [HAT.out j hlt] at cj
      have fj := hnr.free j
      have hov := HOV2.out j hlt
      have HS := Lib.hid (HST.out j hlt)
      have hgC : g ≠ C := by have := HC.out; omega
      have cb := hbx.cell
      generalize xs.getD j 0 = x at *
      generalize (xs.take j).map (fun n => n + b) ++ xs.drop j = acc at *
      have hwr : IntKind.u64.wrap ((x : Int) + (b : Int)) = ((x + b : Nat) : Int) := by rw [IntKind.wrap_u64]; omega
      have hw2 : (x : Int) + (b : Int) = ((x + b : Nat) : Int) := by omega
      generalize x + b = y at *
      have hjI : (j : Int) < (xs.length : Int) := by omega
      have HNR2 := Lib.hid (hnr.drew_.put j y)
      have HBX2 := Lib.hid (show Boxed (wr.drew.setCell ⟨g, j, none⟩ (.int .u64 (y : Int))) C 23 (.int .u64 b) from ((grown_setC wr.drew g j (.int .u64 (y : Int))).block C hbx.lt (fun e => hgC (by injection e with e; exact e.symm))).trans hbx)
      have HBW2 := Lib.hid (hbw.drew.setCell (p := ⟨g, j, none⟩) hgw (.int .u64 (y : Int)))
      clear hnr hcl hln hbx hgC
      go_wp2_with fail
      go_region
      all_goals
        go_wp2_with fail
        exact ⟨⟨j + 1, by omega, by go_num, by rw [← HS.out]; exact HNR2.out, HBX2.out, HBW2.out⟩, by simp [intOf]; omega⟩
    · obtain rfl : j = xs.length := by omega
      rw [HEND.out] at hnr
      obtain ⟨a', c', hev, hnum⟩ := numRow_nums hnr
      obtain ⟨rfl, rfl⟩ : A = a' ∧ c = c' := by injection hev with h1 h2 h3; exact ⟨h1, h3⟩
      have HNM := Lib.hid hnum
      clear hev hnr hnum
      go_wp2_with fail
      go_ret2
      exact ⟨A, c, by rw [HML.out]; rfl, HNM.out, hbw⟩

theorem pread_any (s : ByteArray) (many : Int) (w : World) (hs : s.size ≤ maxLen) :
    Calls Try.prog 33 #[.string s, .int .i64 many] w (AllPost (P.read s.data.toList many) w) := by
  unfold P.read
  by_cases h0 : many < 0
  · rw [if_pos h0]
    have g1 : decide (many < 0) = true := decide_eq_true h0
    go_enter Try.func33, Try.ntmps33
    go_wp2_with fail
    go_ret2
    exact ⟨none, 0, rfl, Nums.nil _ _ _, Below.refl _ _⟩
  rw [if_neg h0]
  obtain ⟨m, rfl⟩ : ∃ m : Nat, many = m := ⟨many.toNat, by omega⟩
  by_cases h1 : 64 < (m : Int)
  · rw [if_pos h1]
    have g1 : decide ((m : Int) < 0) = false := decide_eq_false h0
    have g2 : decide ((64 : Int) < (m : Int)) = true := decide_eq_true h1
    go_enter Try.func33, Try.ntmps33
    go_wp2_with fail
    go_ret2
    exact ⟨none, 0, rfl, Nums.nil _ _ _, Below.refl _ _⟩
  rw [if_neg h1, Int.toNat_natCast]
  exact pread_in s m w hs (by omega)
end Go.Proofs.Ytpjmpbpbfjemdaa
