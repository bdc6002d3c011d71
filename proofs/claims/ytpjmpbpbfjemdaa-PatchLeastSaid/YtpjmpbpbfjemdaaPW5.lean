/- The walk of patch.parse. -/
import Derived.Test.YtpjmpbpbfjemdaaPW4
namespace Go.Proofs.Ytpjmpbpbfjemdaa
open Go.RowKit
set_option linter.unusedVariables false

/-- what parse answers -/
def pparseR (s : List UInt8) (many : Nat) : Nat × List Nat × Nat :=
  if (P.head s many).2.2.2.2.2 ≠ 0 then (0, [], (P.head s many).2.2.2.2.2)
  else ((P.head s many).1, P.mend (P.head s many).2.1 (P.head s many).2.2.2.2.1 (P.head s many).2.2.1 (P.head s many).2.2.2.1 0)
theorem pread_eq (s : List UInt8) (many : Nat) : P.readN s many = if (pparseR s many).2.2 ≠ 0 then ([], (pparseR s many).2.2) else P.fin (pparseR s many).1 ((pparseR s many).2.1, 0) := by
  unfold P.readN pparseR
  generalize P.head s many = h
  by_cases he : h.2.2.2.2.2 ≠ 0
  · simp only [if_pos he]
  · simp only [if_neg he]
    generalize P.mend h.2.1 h.2.2.2.2.1 h.2.2.1 h.2.2.2.1 0 = m
    obtain ⟨xs, er⟩ := m
    unfold P.fin
    by_cases h2 : er ≠ 0
    · simp only [if_pos h2]
    · obtain rfl : er = 0 := by omega
      simp

def PPost (r : Nat × List Nat × Nat) (w : World) (e : Ending) (w' : World) : Prop :=
  ∃ a n c, e = .returned (.tuple #[.int .u64 r.1, .slice a n c, .int .i64 r.2.2]) ∧ n = r.2.1.length ∧ NumRow w.heap.size r.2.1 (.slice a n c) w' ∧ Below w.heap.size w w'
theorem PPost.none {w w' : World} (er : Nat) (h : Below w.heap.size w w') : PPost (0, [], er) w (.returned (.tuple #[.int .u64 0, .slice none 0 0, .int .i64 er])) w' :=
  ⟨Option.none, 0, 0, rfl, rfl, nilRow _ _, h⟩

theorem head_bad (s : List UInt8) (many er : Nat) (h : (P.head s many).2.2.2.2.2 = er) (he : er ≠ 0) : pparseR s many = (0, [], er) := by
  unfold pparseR; rw [h, if_pos he]
theorem head_ok (s : List UInt8) (many b w out : Nat) (p : List Nat) (u : List UInt8) (h : P.head s many = (b, w, p, u, out, 0)) : pparseR s many = (b, P.mend w out p u 0) := by
  unfold pparseR; rw [h]; simp

set_option maxHeartbeats 2000000 in
set_option maxRecDepth 100000 in
theorem pparse_any (s : ByteArray) (many : Nat) (w : World) (hs : s.size ≤ maxLen) (hm : many ≤ 64) :
    Calls Try.prog 57 #[.string s, .int .i64 many] w (PPost (pparseR s.data.toList many) w) := by
  have hmax := hs
  unfold maxLen at hmax
  have hv := fun w => vread_any s w hs
  have hbad := V.rd_bad s.data.toList
  have hok := fun n k (h : V.rd s.data.toList = (n, k, 0)) => V.rd_ok s.data.toList n k h
  have hhd : P.head s.data.toList many = P.head s.data.toList many := rfl
  conv at hhd => rhs; unfold P.head
  obtain ⟨b, k, er, hr⟩ : ∃ b k er, V.rd s.data.toList = (b, k, er) := ⟨_, _, _, rfl⟩
  rw [hr] at hv hbad hok hhd
  simp only at hbad hhd
  have HV := Lib.hid hv
  clear hv hr
  by_cases he : er ≠ 0
  · rw [if_pos he] at hhd
    have HR := Lib.hid (head_bad _ _ er (congrArg (fun x => x.2.2.2.2.2) hhd) he)
    have g1 : ((er : Int) != 0) = true := by rw [bne_iff_ne]; omega
    clear hhd hbad hok
    go_enter Try.func57, Try.ntmps57
    go_wp2_with fail
    refine (HV.out _).mono ?_
    rintro e1 w1 ⟨rfl, hb⟩
    go_wp2_with fail
    go_ret3
    rw [HR.out]
    exact PPost.none er hb
  rw [if_neg he] at hhd
  obtain rfl : er = 0 := by omega
  obtain ⟨k1, k2, hx1, hb64, k9, hx2⟩ := hok b k rfl
  clear hx1 hx2
  rw [len_data] at k2
  clear he hbad hok
  have hkI : IntKind.i64.wrap ((k : Int) + 2) = (k : Int) + 2 := by rw [IntKind.wrap_i64]; omega
  by_cases h2 : s.size < k + 2
  · rw [if_pos (by rw [List.length_drop, len_data]; omega)] at hhd
    have HR := Lib.hid (head_bad _ _ 5 (congrArg (fun x => x.2.2.2.2.2) hhd) (by decide))
    have g2 : decide ((s.size : Int) < (k : Int) + 2) = true := decide_eq_true (by omega)
    clear hhd
    go_enter Try.func57, Try.ntmps57
    go_wp2_with fail
    refine (HV.out _).mono ?_
    rintro e1 w1 ⟨rfl, hb⟩
    go_wp2_with fail
    go_ret3
    rw [HR.out]
    exact PPost.none 5 hb
  rw [if_neg (by rw [List.length_drop, len_data]; omega)] at hhd
  have g2 : decide ((s.size : Int) < (k : Int) + 2) = false := decide_eq_false (by omega)
  have hk1 : k < s.size := by omega
  have hk2 : k + 1 < s.size := by omega
  have e0 : (s.data.toList.drop k).getD 0 0 = s[k] := by
    simp [List.getD, List.getElem?_drop, ByteArray.getElem_eq_getElem_data, hk1]
  have e1 : (s.data.toList.drop k).getD 1 0 = s[k + 1] := by
    simp [List.getD, List.getElem?_drop, ByteArray.getElem_eq_getElem_data, hk2]
  rw [e0, e1] at hhd
  have hu1 := s[k].toNat_lt
  have hu2 := s[k + 1].toNat_lt
  obtain ⟨wd, hwd⟩ : ∃ wd, wd = s[k].toNat := ⟨_, rfl⟩
  obtain ⟨ct, hct⟩ : ∃ ct, ct = s[k + 1].toNat := ⟨_, rfl⟩
  rw [← hwd, ← hct] at hhd
  have hwb : wd < 256 := by omega
  have hcb : ct < 256 := by omega
  have HW1 := Lib.hid (show wrap64 (s[k].toNat : Int) = (wd : Int) by unfold wrap64; omega)
  have HW2 := Lib.hid (show wrap64 (s[k + 1].toNat : Int) = (ct : Int) by unfold wrap64; omega)
  have hkI1 : IntKind.i64.wrap ((k : Int) + 1) = (k : Int) + 1 := by rw [IntKind.wrap_i64]; omega
  have hk0 : (0 : Int) ≤ (k : Int) := by omega
  have hk10 : (0 : Int) ≤ (k : Int) + 1 := by omega
  have hksI : (k : Int) < (s.size : Int) := by omega
  have hks1I : (k : Int) + 1 < (s.size : Int) := by omega
  have hkt1 : ((k : Int) + 1).toNat = k + 1 := by omega
  have hk2s : (k : Int) + 2 ≤ (s.size : Int) := by omega
  clear hwd hct e0 e1 hu1 hu2 h2
  by_cases h64 : 64 < wd
  · rw [if_pos h64] at hhd
    have HR := Lib.hid (head_bad _ _ 3 (congrArg (fun x => x.2.2.2.2.2) hhd) (by decide))
    have g3 : decide ((64 : Int) < (wd : Int)) = true := decide_eq_true (by omega)
    clear hhd
    go_enter Try.func57, Try.ntmps57
    go_wp2_with fail
    refine (HV.out _).mono ?_
    rintro e1 w1 ⟨rfl, hb⟩
    have hw1 := HW1.out
    have hw2 := HW2.out
    go_wp2_with fail
    go_quiet (fail)
    rw [hw1, hw2]
    clear hw1 hw2
    go_wp2_with fail
    go_ret3
    rw [HR.out]
    exact PPost.none 3 (below_drewN hb _)
  rw [if_neg h64] at hhd
  have g3 : decide ((64 : Int) < (wd : Int)) = false := decide_eq_false (by omega)
  have hkt2 : ((k : Int) + 2).toNat = k + 2 := by omega
  have hwd64 : wd ≤ 64 := by omega
  have HZ := Lib.hid (fun W => psize_any many wd W hm hwd64)
  have hmul := Nat.mul_le_mul hm hwd64
  have hzb : B.sz (many * wd) ≤ 512 := by unfold B.sz; omega
  have hdT : (s.extract (k + 2) s.size).data.toList = (s.data.toList.drop k).drop 2 := by rw [cut_data, List.drop_drop]
  rw [← hdT] at hhd
  have hTs : (s.extract (k + 2) s.size).size = s.size - (k + 2) := by simp
  rw [len_data, hTs] at hhd
  by_cases h5 : s.size - (k + 2) < B.sz (many * wd)
  · rw [if_pos h5] at hhd
    have HR := Lib.hid (head_bad _ _ 5 (congrArg (fun x => x.2.2.2.2.2) hhd) (by decide))
    generalize B.sz (many * wd) = z at *
    clear hhd hdT hTs
    go_enter Try.func57, Try.ntmps57
    go_wp2_with fail
    refine (HV.out _).mono ?_
    rintro e1 w1 ⟨rfl, hb⟩
    have hw1 := HW1.out
    have hw2 := HW2.out
    go_wp2_with fail
    go_quiet (fail)
    rw [hw1, hw2]
    clear hw1 hw2
    go_wp2_with fail
    refine (HZ.out _).mono ?_
    rintro e2 w2 ⟨rfl, rfl⟩
    go_wp2_with fail
    go_ret3
    rw [HR.out]
    exact PPost.none 5 (below_drewN hb _)
  rw [if_neg h5] at hhd
  have hd1 : ((s.extract (k + 2) s.size).extract 0 (B.sz (many * wd))).data.toList = (s.extract (k + 2) s.size).data.toList.take (B.sz (many * wd)) := take_data _ _
  have hl1 : ((s.extract (k + 2) s.size).data.toList.take (B.sz (many * wd))).length = B.sz (many * wd) := by rw [List.length_take, len_data, hTs]; omega
  have hun := fun W => unpackr_any ((s.extract (k + 2) s.size).extract 0 (B.sz (many * wd))) (many : Int) (wd : Int) W (by rw [← len_data, hd1, hl1]; unfold maxLen; omega)
  rw [hd1, unpR_eq _ many wd hm hwd64 hl1] at hun
  have hdl : (B.dg wd many (B.leN ((s.extract (k + 2) s.size).data.toList.take (B.sz (many * wd))))).length = many := B.dg_length _ _ _
  have hd2 : ((s.extract (k + 2) s.size).extract (B.sz (many * wd)) (s.extract (k + 2) s.size).size).data.toList = (s.extract (k + 2) s.size).data.toList.drop (B.sz (many * wd)) := cut_data _ _
  have hd3 : ((s.extract (k + 2) s.size).extract (B.sz (many * wd)) (s.extract (k + 2) s.size).size).size ≤ maxLen := by simp; unfold maxLen; omega
  rw [hTs] at hd2 hd3
  generalize B.dg wd many (B.leN ((s.extract (k + 2) s.size).data.toList.take (B.sz (many * wd)))) = pk at *
  generalize B.leN ((s.extract (k + 2) s.size).data.toList.take (B.sz (many * wd))) / 2 ^ (many * wd) = top at *
  generalize hU : (s.extract (k + 2) s.size).data.toList.drop (B.sz (many * wd)) = U at *
  clear hU
  by_cases h6 : top ≠ 0
  · rw [if_pos h6] at hhd hun
    have HR := Lib.hid (head_bad _ _ 1 (congrArg (fun x => x.2.2.2.2.2) hhd) (by decide))
    have HUN := Lib.hid hun
    generalize B.sz (many * wd) = z at *
    have hzs : z ≤ s.size - (k + 2) := by omega
    clear hhd hdT hTs hd1 hl1 hd2 hd3 hun hdl
    go_enter Try.func57, Try.ntmps57
    go_wp2_with fail
    refine (HV.out _).mono ?_
    rintro e1 w1 ⟨rfl, hb⟩
    have hw1 := HW1.out
    have hw2 := HW2.out
    go_wp2_with fail
    go_quiet (fail)
    rw [hw1, hw2]
    clear hw1 hw2
    go_wp2_with fail
    refine (HZ.out _).mono ?_
    rintro e2 w2 ⟨rfl, rfl⟩
    go_wp2_with fail
    refine (HUN.out _).mono ?_
    rintro e3 w3 ⟨a3, c3, rfl, hr3, _, _, hb3⟩
    go_wp2_with fail
    go_ret3
    rw [HR.out]
    exact PPost.none 1 (below_then (below_drewN hb _) hb3)
  rw [if_neg h6] at hhd hun
  have HR := Lib.hid (head_ok _ _ _ _ _ _ _ hhd)
  have HUN := Lib.hid (fun W => show Calls Try.prog 80 #[.string ((s.extract (k + 2) s.size).extract 0 (B.sz (many * wd))), .int .i64 many, .int .i64 wd] W (fun e w' => ∃ a c, e = .returned (.tuple #[.slice a many c, .int .i64 0]) ∧ NumRow W.heap.size pk (.slice a many c) w' ∧ Below W.heap.size W w') from
    (hun W).mono fun e w' ⟨a, c, he, hr, _, _, hb⟩ => ⟨a, c, by rw [he]; simp only [hdl]; rfl, by simp only [hdl] at hr; exact hr, hb⟩)
  have HD2 := Lib.hid hd2
  have HD3 := Lib.hid hd3
  generalize B.sz (many * wd) = z at *
  have hzs : z ≤ s.size - (k + 2) := by omega
  have HME := Lib.hid (fun Bs A c (W : World) (hB : Bs ≤ W.heap.size) (t : ByteArray) (ht : t.data.toList = U) (hsz : t.size ≤ maxLen) hrow => show Calls Try.prog 81 #[.slice A many c, .string t, .int .i64 ct, .int .i64 wd] W (MendPost (P.mend wd ct pk U 0) Bs A many c W) by
    rw [← ht]; exact mend_any Bs A many c ct wd pk t W hB hsz hwd64 (by omega) hdl hm hrow)
  have hml := P.mend_length wd ct pk U 0
  rw [hdl] at hml
  have HDL := Lib.hid hdl
  have HMEL := Lib.hid hml
  generalize P.mend wd ct pk U 0 = M at *
  clear hhd hdT hTs hd1 hl1 hd2 hd3 hun hml
  go_enter Try.func57, Try.ntmps57
  go_wp2_with fail
  refine (HV.out _).mono ?_
  rintro e1 w1 ⟨rfl, hb⟩
  have hw1 := HW1.out
  have hw2 := HW2.out
  go_wp2_with fail
  go_quiet (fail)
  rw [hw1, hw2]
  clear hw1 hw2 hdl
  go_wp2_with fail
  refine (HZ.out _).mono ?_
  rintro e2 w2 ⟨rfl, rfl⟩
  go_wp2_with fail
  refine (HUN.out _).mono ?_
  rintro e3 w3 ⟨a3, c3, rfl, hr3, hb3⟩
  have h3 := below_then (below_drewN hb nq) hb3
  have hr3' := hr3
  have HR3 := Lib.hid (show NumRow w.heap.size pk (.slice a3 many c3) w3 from by
    refine ⟨hr3'.1, ?_⟩
    rcases hr3'.2 with hn | ⟨g, cap, cur, e1, e2, e3⟩
    · exact Or.inl hn
    · exact Or.inr ⟨g, cap, cur, e1, by have := hb.size; have : (w1.drewN nq).heap.size = w1.heap.size := by simp
                                        omega, e3⟩)
  clear hr3 hr3'
  go_wp2_with fail
  refine (HME.out w.heap.size a3 c3 w3 h3.size _ HD2.out HD3.out HR3.out).mono ?_
  rintro e4 w4 ⟨rfl, hr4, hb4⟩
  have HR4 := Lib.hid hr4
  clear hr4
  go_wp2_with fail
  go_ret3
  rw [HR.out]
  exact ⟨a3, many, c3, rfl, HMEL.out.symm, HR4.out, h3.trans hb4⟩
end Go.Proofs.Ytpjmpbpbfjemdaa
