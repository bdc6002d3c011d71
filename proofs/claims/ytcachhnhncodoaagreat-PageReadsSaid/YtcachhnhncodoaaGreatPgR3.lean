/- The walk of bodyCells. -/
import Derived.Test.YtcachhnhncodoaaGreatPgR2
namespace Go.Proofs.YtcachhnhncodoaaGreat
open Go.RowKit
set_option linter.unusedVariables false

namespace Pg
def bodyR (b : List UInt8) : Int × List C.Cl × Nat :=
 match b with
 | [] => (0, [], 5)
 | c :: t => if c.toNat ≠ 1 ∧ c.toNat ≠ 2 then (0, [], 7)
  else if (cellsR (c.toNat : Int) t).2 ≠ 0 then (0, [], (cellsR (c.toNat : Int) t).2) else ((c.toNat : Int), (cellsR (c.toNat : Int) t).1, 0)
theorem page_body (b : List UInt8) (n : Nat) : pageC b n = if (bodyR b).2.2 ≠ 0 then (0, [], 0, (bodyR b).2.2) else ((bodyR b).1, (bodyR b).2.1, n, 0) := by
 cases b with
 | nil => rfl
 | cons c t =>
  unfold pageC bodyR
  simp only
  by_cases h1 : c.toNat ≠ 1 ∧ c.toNat ≠ 2
  ·rw [if_pos h1, if_pos h1]; rfl
  rw [if_neg h1, if_neg h1]
  by_cases h2 : (cellsR (c.toNat : Int) t).2 ≠ 0
  ·rw [if_pos h2, if_pos h2, if_pos (by simpa using h2)]
  ·rw [if_neg h2, if_neg h2, if_neg (by simp)]
theorem cells_r1 {k : Int} {t : List UInt8} {n j e : Nat} (h : V.rd t = (n, j, e)) (he : e ≠ 0) : cellsR k t = ([], e) := by unfold cellsR; rw [h]; exact if_pos he
theorem cells_r2 {k : Int} {t : List UInt8} {n j : Nat} (h : V.rd t = (n, j, 0)) (hn : 64 < n) : cellsR k t = ([], 2) := by unfold cellsR; rw [h]; simp only; rw [if_neg (by simp), if_pos hn]
theorem cells_r3 {k : Int} {t : List UInt8} {n j d i e : Nat} (h : V.rd t = (n, j, 0)) (hn : ¬ 64 < n) (h2 : V.rd (t.drop j) = (d, i, e)) (he : e ≠ 0) : cellsR k t = ([], e) := by
 unfold cellsR; rw [h]; simp only; rw [h2, if_neg (by simp), if_neg hn]; simp only; rw [if_pos he]
theorem cells_r4 {k : Int} {t : List UInt8} {n j d i : Nat} (h : V.rd t = (n, j, 0)) (hn : ¬ 64 < n) (h2 : V.rd (t.drop j) = (d, i, 0)) (hd : n < d) : cellsR k t = ([], 4) := by
 unfold cellsR; rw [h]; simp only; rw [h2, if_neg (by simp), if_neg hn]; simp only; rw [if_neg (by simp), if_pos hd]
theorem cells_r5 {k : Int} {t : List UInt8} {n j d i : Nat} (h : V.rd t = (n, j, 0)) (hn : ¬ 64 < n) (h2 : V.rd (t.drop j) = (d, i, 0)) (hd : ¬ n < d) : cellsR k t = restR k n d (whichR ((t.drop j).drop i) n d) := by
 unfold cellsR; rw [h]; simp only; rw [h2, if_neg (by simp), if_neg hn]; simp only; rw [if_neg (by simp), if_neg hd]
theorem body_e {c : UInt8} {t : List UInt8} {e : Nat} (hk : ¬ (c.toNat ≠ 1 ∧ c.toNat ≠ 2)) (h : cellsR (c.toNat : Int) t = ([], e)) (he : e ≠ 0) : bodyR (c :: t) = (0, [], e) := by
 unfold bodyR; simp only; rw [if_neg hk, h]; exact if_pos he
theorem body_ok {c : UInt8} {t : List UInt8} {l : List C.Cl} (hk : ¬ (c.toNat ≠ 1 ∧ c.toNat ≠ 2)) (h : cellsR (c.toNat : Int) t = (l, 0)) : bodyR (c :: t) = ((c.toNat : Int), l, 0) := by
 unfold bodyR; simp only; rw [if_neg hk, h]; exact if_neg (by simp)
end Pg

def BodyPost (r : Int × List C.Cl × Nat) (w : World) (e : Ending) (w' : World) : Prop :=
 ∃ v, e = .returned (.tuple #[.int .i64 r.1, v, .int .i64 (r.2.2 : Nat)]) ∧ CRow w.heap.size r.2.1 v w' ∧ Below w.heap.size w w'
theorem BodyPost.none {w w' : World} (er : Nat) (h : Below w.heap.size w w') : BodyPost (0, [], er) w (.returned (.tuple #[.int .i64 0, .slice Option.none 0 0, .int .i64 er])) w' :=
 ⟨.slice Option.none 0 0, rfl, cnilRow _ _, h⟩

theorem rep_ones (n : Nat) : ones (List.replicate n true) = List.replicate n 1 := by simp [ones]
theorem ones_at (m : List Bool) (j : Nat) (h : j < m.length) : (ones m).getD j 0 = if m.getD j false = true then 1 else 0 := by
 simp [ones, List.getD, List.getElem?_map, List.getElem?_eq_getElem h]
theorem join_take (m : List Bool) (cs : List C.Cl) (j : Nat) (h : j < m.length) : (C.join m cs).take (j + 1) = (C.join m cs).take j ++ [if m.getD j false = true then cs.getD (M.cnt (m.take j)) C.null else C.null] := by
 rw [ctake_succ _ j (by rw [C.join_length]; exact h), C.join_at m cs j h]
theorem cnt_all {m : List Bool} (h : M.cnt m = 0) : ∀ j, m.getD j false = false := by
 induction m with
 | nil => intro j; simp
 | cons b m ih =>
  intro j
  unfold M.cnt at h
  cases b with
  | true => simp at h
  | false =>
   simp at h
   cases j with
   | zero => rfl
   | succ j => simpa using ih h j
theorem join_none {m : List Bool} (h : M.cnt m = 0) (cs : List C.Cl) : C.join m cs = List.replicate m.length C.null := by
 apply List.ext_getElem
 ·rw [C.join_length, List.length_replicate]
 ·intro i h1 h2
  have h3 := C.join_at m cs i (by rw [C.join_length] at h1; exact h1)
  rw [cnt_all h i, if_neg (by simp)] at h3
  simp only [List.getD, List.getElem?_eq_getElem h1, Option.getD_some] at h3
  rw [h3, List.getElem_replicate]

set_option maxHeartbeats 16000000 in
set_option maxRecDepth 100000 in
theorem bodyc_any (c : UInt8) (t : List UInt8) (w : World) (hs : (c :: t).length ≤ 140737488351232) :
  Calls Tryz.prog 31 #[.string (str (c :: t))] w (BodyPost (Pg.bodyR (c :: t)) w) := by
 rw [List.length_cons] at hs
 have hsz := str_size (c :: t)
 rw [List.length_cons] at hsz
 have hz : 0 < (str (c :: t)).size := by omega
 have hz1 : 1 ≤ (str (c :: t)).size := by omega
 have hz1I : (1 : Int) ≤ ((str (c :: t)).size : Int) := by omega
 have gz : (((str (c :: t)).size : Int) == 0) = false := by rw [beq_eq_false_iff_ne]; omega
 have hc : (str (c :: t))[0].toNat = c.toNat := rfl
 have hX1 := str_tail c t
 by_cases hk : c.toNat ≠ 1 ∧ c.toNat ≠ 2
 ·have HRE := Lib.hid (show Pg.bodyR (c :: t) = (0, [], 7) by unfold Pg.bodyR; exact if_pos hk)
  have hk256 : c.toNat < 256 := UInt8.toNat_lt c
  generalize hkk : c.toNat = kk at *
  have gk1 : ((kk : Int) != 1) = true := by rw [bne_iff_ne]; omega
  have gk2 : ((kk : Int) != 2) = true := by rw [bne_iff_ne]; omega
  generalize str (c :: t) = B at *
  clear hX1 hs hk hsz hkk
  go_enter Tryz.func31, Tryz.ntmps31
  go_wp2_with fail
  go_ret3
  rw [HRE.out]; exact BodyPost.none 7 (Below.refl _ _)
 have HBE := Lib.hid (fun e (h : Pg.cellsR (c.toNat : Int) t = ([], e)) (he : e ≠ 0) => Pg.body_e hk h he)
 have HBO := Lib.hid (fun l (h : Pg.cellsR (c.toNat : Int) t = (l, 0)) => Pg.body_ok hk h)
 have hv1 := fun W => frvof_any (str t) W (by rw [str_size]; unfold maxLen; omega)
 rw [str_data] at hv1
 unfold ReadPost at hv1
 obtain ⟨n, k1, e1, he1⟩ : ∃ n k1 e1, V.rd t = (n, k1, e1) := ⟨_, _, _, rfl⟩
 rw [he1, ← hX1] at hv1
 simp only at hv1
 have HV1 := Lib.hid hv1
 clear hv1
 generalize hR : Pg.bodyR (c :: t) = R at *
 have hk256 : c.toNat < 256 := UInt8.toNat_lt c
 generalize hkk : c.toNat = kk at *
 have hk12 : kk = 1 ∨ kk = 2 := by omega
 by_cases h1 : e1 ≠ 0
 ·have HRE := Lib.hid (HBE.out e1 (Pg.cells_r1 he1 h1) h1)
  have g1 : ((e1 : Int) != 0) = true := by rw [bne_iff_ne]; omega
  generalize str (c :: t) = B at *
  clear hX1 hs hk he1 hsz hkk hR HBE HBO h1
  rcases hk12 with rfl | rfl
  all_goals
   go_enter Tryz.func31, Tryz.ntmps31
   go_wp2_with fail
   refine (HV1.out _).mono ?_
   rintro e w1 ⟨rfl, hb1⟩
   go_wp2_with fail
   go_ret3
   rw [HRE.out]; exact BodyPost.none e1 hb1

 obtain rfl : e1 = 0 := Classical.not_not.1 h1
 obtain ⟨hk11, hk1l, _, hnx, hk19, _⟩ := V.rd_ok _ _ _ he1
 by_cases h2 : 64 < n
 ·have HRE := Lib.hid (HBE.out 2 (Pg.cells_r2 he1 h2) (by decide))
  have g2 : decide (64 < n) = true := decide_eq_true h2
  have g2' : decide ((64 : Int) < (n : Int)) = true := decide_eq_true (by omega)
  generalize str (c :: t) = B at *
  clear hX1 hs hk he1 hsz hkk hR HBE HBO h1 h2
  rcases hk12 with rfl | rfl
  all_goals
   go_enter Tryz.func31, Tryz.ntmps31
   go_wp2_with fail
   refine (HV1.out _).mono ?_
   rintro e w1 ⟨rfl, hb1⟩
   go_wp2_with fail
   go_ret3
   rw [HRE.out]; exact BodyPost.none 2 hb1

 have g2 : decide (64 < n) = false := decide_eq_false h2
 have g2' : decide ((64 : Int) < (n : Int)) = false := decide_eq_false (by omega)
 obtain ⟨K1, hK1⟩ : ∃ K1, K1 = 1 + k1 := ⟨_, rfl⟩
 have hwK1 : IntKind.i64.wrap (1 + (k1 : Int)) = (K1 : Int) := by rw [IntKind.wrap_i64]; omega
 have hK1S : (K1 : Int) ≤ ((str (c :: t)).size : Int) := by omega
 have hK1N : K1 ≤ (str (c :: t)).size := by omega
 have hX2 : (str (c :: t)).extract K1 (str (c :: t)).size = str (t.drop k1) := by rw [str_drop, hK1, Nat.add_comm 1 k1]; rfl
 have hv2 := fun W => frvof_any (str (t.drop k1)) W (by rw [str_size, List.length_drop]; unfold maxLen; omega)
 rw [str_data] at hv2
 unfold ReadPost at hv2
 obtain ⟨d, k2, e2, he2⟩ : ∃ d k2 e2, V.rd (t.drop k1) = (d, k2, e2) := ⟨_, _, _, rfl⟩
 rw [he2, ← hX2] at hv2
 simp only at hv2
 have HV2 := Lib.hid hv2
 clear hv2
 by_cases h3 : e2 ≠ 0
 ·have HRE := Lib.hid (HBE.out e2 (Pg.cells_r3 he1 h2 he2 h3) h3)
  have g3 : ((e2 : Int) != 0) = true := by rw [bne_iff_ne]; omega
  generalize str (c :: t) = B at *
  clear hX1 hX2 hs hk he1 he2 hsz hkk hR hk1l HBE HBO h1 h2 h3 hK1
  rcases hk12 with rfl | rfl
  all_goals
   go_enter Tryz.func31, Tryz.ntmps31
   go_wp2_with fail
   refine (HV1.out _).mono ?_
   rintro e w1 ⟨rfl, hb1⟩
   go_wp2_with fail
   refine (HV2.out _).mono ?_
   rintro e w2 ⟨rfl, hb2⟩
   have h2b := below_then hb1 hb2
   go_wp2_with fail
   go_ret3
   rw [HRE.out]; exact BodyPost.none e2 h2b

 obtain rfl : e2 = 0 := Classical.not_not.1 h3
 obtain ⟨hk21, hk2l, _, hdx, hk29, _⟩ := V.rd_ok _ _ _ he2
 rw [List.length_drop] at hk2l
 by_cases h4 : n < d
 ·have HRE := Lib.hid (HBE.out 4 (Pg.cells_r4 he1 h2 he2 h4) (by decide))
  have g4 : decide (n < d) = true := decide_eq_true h4
  generalize str (c :: t) = B at *
  clear hX1 hX2 hs hk he1 he2 hsz hkk hR hk1l HBE HBO h1 h2 h3 hK1 h4
  rcases hk12 with rfl | rfl
  all_goals
   go_enter Tryz.func31, Tryz.ntmps31
   go_wp2_with fail
   refine (HV1.out _).mono ?_
   rintro e w1 ⟨rfl, hb1⟩
   go_wp2_with fail
   refine (HV2.out _).mono ?_
   rintro e w2 ⟨rfl, hb2⟩
   have h2b := below_then hb1 hb2
   go_wp2_with fail
   go_ret3
   rw [HRE.out]; exact BodyPost.none 4 h2b

 have g4 : decide (n < d) = false := decide_eq_false h4
 have hcr := Pg.cells_r5 (k := (kk : Int)) he1 h2 he2 h4
 obtain ⟨K2, hK2⟩ : ∃ K2, K2 = K1 + k2 := ⟨_, rfl⟩
 have hwK2 : IntKind.i64.wrap ((K1 : Int) + (k2 : Int)) = (K2 : Int) := by rw [IntKind.wrap_i64]; omega
 have hK2S : (K2 : Int) ≤ ((str (c :: t)).size : Int) := by omega
 have hK2N : K2 ≤ (str (c :: t)).size := by omega
 have hX3 : (str (c :: t)).extract K2 (str (c :: t)).size = str ((t.drop k1).drop k2) := by
  rw [str_drop, hK2, hK1, List.drop_drop, show 1 + k1 + k2 = (k1 + k2) + 1 by omega]; rfl
 have hs2l : ((t.drop k1).drop k2).length ≤ 140737488351232 := by simp only [List.length_drop]; omega
 generalize hs2 : (t.drop k1).drop k2 = s2 at *
 have hn64 : n ≤ 64 := by omega
 have hdn : d ≤ n := by omega
 have hwn : IntKind.i64.wrap (n : Int) = (n : Int) := by rw [IntKind.wrap_i64]; omega
 have hwd : IntKind.i64.wrap (d : Int) = (d : Int) := by rw [IntKind.wrap_i64]; omega
 obtain ⟨m, s3, e3, h5⟩ : ∃ m s3 e3, Pg.whichR s2 n d = (m, s3, e3) := ⟨_, _, _, rfl⟩
 rw [h5] at hcr
 have HCR := Lib.hid hcr
 have HBE2 := Lib.hid (fun e (h : Pg.restR (kk : Int) n d (m, s3, e3) = ([], e)) (he : e ≠ 0) => HBE.out e (hcr.trans h) he)
 have HBO2 := Lib.hid (fun l (h : Pg.restR (kk : Int) n d (m, s3, e3) = (l, 0)) => HBO.out l (hcr.trans h))
 generalize hB : str (c :: t) = B at *
 clear hX1 hX2 hk he1 he2 HBE HBO h1 h2 h3 hK1 hK2 h4 hcr HCR hs hB hsz hk1l hk2l hs2
 have hWF := fun h0 : e3 = 0 => Pg.which_facts (by rw [← h0]; exact h5) hn64
 have H5 := Lib.hid h5
 have hsz2 := str_size s2
 obtain ⟨z, hz8⟩ : ∃ z, (n + 7) / 8 = z := ⟨_, rfl⟩
 rcases hk12 with rfl | rfl
 ·go_enter Tryz.func31, Tryz.ntmps31
  go_wp2_with fail
  refine (HV1.out _).mono ?_
  rintro e w1 ⟨rfl, hb1⟩
  go_wp2_with fail
  refine (HV2.out _).mono ?_
  rintro e w2 ⟨rfl, hb2⟩
  have h2b := below_then hb1 hb2
  go_wp2_with fail
  go_loopw [11, 12] (fun v i wr => ∃ q : Nat, q ≤ n ∧ i = .int .i64 q ∧ NumRow w.heap.size (List.replicate q 1) v wr ∧ Below w.heap.size w wr) (fun _ i _ => n - (intOf i).toNat)
  case atStart => exact ⟨0, by omega, rfl, ⟨rfl, Or.inl ⟨rfl, rfl⟩⟩, h2b⟩
  case round =>
   obtain ⟨q, hq, rfl, hrow, hbw⟩ := hrel
   by_cases hlt : q < n
   ·have hqI : (q : Int) < (n : Int) := by omega
    have hxl : (q + 1) * 8 ≤ 140737488355328 := by omega
    have HROW := Lib.hid (show wr.ownsRow w.heap.size 34 1 u11 q (nv (List.replicate q 1)) by have := hrow; unfold NumRow at this; rw [List.length_replicate] at this; exact this)
    have hb5 : w.heap.size ≤ (wr.alloc (.cells #[.int .u64 ((1 : Nat) : Int)] 34)).heap.size := by have := hbw.size; simp; omega
    clear hrow
    go_wp2_with (at_builtin; refine wpList_append_one rfl (.tmp 72) (.tmp 73) rfl w.heap.size _ q _ rfl (HROW.out.alloc _) wr.heap.size 1 rfl (World.cell?_alloc_new _ _ _ _) hxl hb5 ?_)
    intro v' w3 hown3 hgrow3
    go_wp2_with fail
    have hbw3 : Below w.heap.size w w3 := (hbw.alloc hbw.size _).grown hgrow3 (by have := hbw.size; simp; omega) (fun k hk => (HROW.out.lt k hk).1)
    refine ⟨⟨q + 1, by omega, by go_num, ?_, hbw3⟩, by simp [intOf]; omega⟩
    unfold NumRow
    rw [List.length_replicate, List.replicate_succ']
    simpa [nv] using hown3
   ·obtain rfl : q = n := by omega
    clear hb1 hb2 h2b HV1 HV2
    go_upto_if 77 with fail
    go_cut [0, 8, 11, 13, 14, 15] from 66 to 182 (fun s0 e8 v11 x13 x14 x15 wx => e3 = 0 ∧ s0 = .string (str s3) ∧ e8 = .int .i64 0 ∧ (∃ a c, v11 = .slice a q c ∧ Nums wx wx.heap.size a (ones m)) ∧ Below w.heap.size w wx)
    case first =>
     obtain ⟨a1, c1, rfl, hN1⟩ := numRow_nums hrow
     rw [List.length_replicate]
     clear hrow
     rename World => wr
     by_cases hA : d < q
     ·have gA : decide (d < q) = true := decide_eq_true hA
      have gA' : decide ((d : Int) < (q : Int)) = true := decide_eq_true (by omega)
      have hWR : Pg.whichR s2 q d = if s2.length < z then ([], [], 5) else if (mofR (s2.take z) q).2 ≠ 0 then ([], [], (mofR (s2.take z) q).2) else if M.cnt (mofR (s2.take z) q).1 ≠ d then ([], [], 1) else ((mofR (s2.take z) q).1, s2.drop z, 0) := by
       unfold Pg.whichR; rw [if_neg (by omega), hz8]
      rw [H5.out] at hWR
      obtain ⟨Z0, hZ0⟩ : ∃ Z0, Z0 = q / 8 := ⟨_, rfl⟩
      obtain ⟨r, hr⟩ : ∃ r, r = q % 8 := ⟨_, rfl⟩
      have hq8 : (q : Int) / 8 = (Z0 : Int) := by omega
      have hq9 : (q : Int).tdiv 8 = (Z0 : Int) := by rw [Int.tdiv_eq_ediv_of_nonneg (by omega)]; exact hq8
      have hwZ : IntKind.i64.wrap (Z0 : Int) = (Z0 : Int) := by rw [IntKind.wrap_i64]; omega
      have hr8 : (q : Int) % 8 = (r : Int) := by omega
      have hr9 : (q : Int).tmod 8 = (r : Int) := by rw [Int.tmod_eq_emod_of_nonneg (by omega)]; exact hr8
      have hwr : IntKind.u64.wrap (r : Int) = (r : Int) := by rw [IntKind.wrap_u64]; omega
      have hq64 : q ≤ 64 := hn64
      have hd64 : d ≤ 64 := by omega
      by_cases hr0 : r = 0
      ·have gr : decide (0 < r) = false := decide_eq_false (by omega)
       have gr' : decide ((0 : Int) < (r : Int)) = false := decide_eq_false (by omega)
       obtain rfl : z = Z0 := by omega
       clear hr0 hz8 hr hZ0
       by_cases hF1 : s2.length < z
       ·rw [if_pos hF1] at hWR
        have he3 : e3 = 5 := congrArg (fun x : List Bool × List UInt8 × Nat => x.2.2) hWR
        have HRE := Lib.hid (HBE2.out 5 (by unfold Pg.restR; rw [he3]; exact if_pos (by simp)) (by decide))
        have g1 : decide (((str s2).size : Int) < (z : Int)) = true := decide_eq_true (by omega)
        have g1' : decide ((str s2).size < z) = true := decide_eq_true (by omega)
        clear hF1 hWR he3 HBE2 HBO2 h5 H5 hWF hsz2
        generalize str s2 = S2 at *
        go_wp2_with fail
        go_ret3
        rw [HRE.out]; exact BodyPost.none 5 hbw
       ·rw [if_neg hF1] at hWR
        have g1 : decide (((str s2).size : Int) < (z : Int)) = false := decide_eq_false (by omega)
        have g1' : decide ((str s2).size < z) = false := decide_eq_false (by omega)
        have hzS : z ≤ (str s2).size := by omega
        have hzSI : (z : Int) ≤ ((str s2).size : Int) := by omega
        have hX : (str s2).extract 0 z = str (s2.take z) := by have := str_cut s2 0 z; rw [Nat.zero_add] at this; simpa using this
        have hXd : (str s2).extract z (str s2).size = str (s2.drop z) := str_drop s2 z
        have hU := fun W => unpackOo_any (str (s2.take z)) q 1 W (by rw [str_size, List.length_take]; unfold maxLen; omega)
        rw [str_data, ← hX] at hU
        unfold AllPostO at hU
        obtain ⟨u, em, hue⟩ : ∃ u em, unpR (s2.take z) q 1 = (u, em) := ⟨_, _, rfl⟩
        have hmf : mofR (s2.take z) q = (ofOnes u, em) := by unfold mofR; rw [hue]
        have hfc := unpR_facts2 (s := s2.take z) (m := q) (wd := 1) hue
        have hlt2 : ∀ x ∈ u, x < 2 := by
         intro x hx
         have e1 : u = (unpR (s2.take z) q 1).1 := by rw [hue]
         rw [e1] at hx
         unfold unpR at hx
         split at hx
         ·exact Go.Proofs.YtcachhnhncodoaaGreat.B.dg_lt _ _ _ x hx
         ·simp at hx
        rw [hue] at hU
        rw [hmf] at hWR
        simp only at hU hWR
        by_cases hF2 : em ≠ 0
        ·rw [if_pos hF2] at hWR
         have he3 : e3 = em := congrArg (fun x : List Bool × List UInt8 × Nat => x.2.2) hWR
         have HRE := Lib.hid (HBE2.out em (by unfold Pg.restR; rw [he3]; exact if_pos hF2) hF2)
         have ge : ((em : Int) != 0) = true := by rw [bne_iff_ne]; omega
         have HU := Lib.hid hU
         clear hF1 hWR he3 HBE2 HBO2 h5 H5 hWF hsz2 hU hX hXd hue hmf hfc hlt2 hF2
         generalize str s2 = S2 at *
         go_wp2_with fail
         refine (HU.out _).mono ?_
         rintro e w5 ⟨au, cu, rfl, hrow5, hb5⟩
         go_wp2_with fail
         go_ret3
         rw [HRE.out]; exact BodyPost.none em (below_then hbw hb5)
        ·obtain rfl : em = 0 := Classical.not_not.1 hF2
         rw [if_neg hF2] at hWR
         have hul := (hfc.2 rfl).1
         rw [hul] at hU
         have HU := Lib.hid hU
         have HOO := Lib.hid (ones_ofOnes u hlt2)
         have HST := Lib.hid (fun j (h : j < q) => show M.cnt ((ofOnes u).take (j + 1)) = M.cnt ((ofOnes u).take j) + u.getD j 0 by
          rw [M.cnt_snoc _ j (by unfold ofOnes; rw [List.length_map]; omega)]
          have hx := hlt2 (u.getD j 0) (getD_mem u j (by omega))
          have e1 : (ofOnes u).getD j false = (u.getD j 0 == 1) := by unfold ofOnes; simp [List.getD, List.getElem?_map, List.getElem?_eq_getElem (show j < u.length by omega)]
          rw [e1]
          have : u.getD j 0 = 0 ∨ u.getD j 0 = 1 := by omega
          rcases this with h | h <;> rw [h] <;> rfl)
         have HCB := Lib.hid (fun j => show M.cnt ((ofOnes u).take j) ≤ 64 from Nat.le_trans (M.cnt_le _) (by unfold ofOnes; rw [List.length_take, List.length_map]; omega))
         have HAL := Lib.hid (show M.cnt ((ofOnes u).take q) = M.cnt (ofOnes u) by rw [List.take_of_length_le (by unfold ofOnes; rw [List.length_map]; omega)])
         have HUL := Lib.hid hul
         have HWR := Lib.hid hWR
         have HXD := Lib.hid hXd
         clear hF1 hWR h5 H5 hWF hsz2 hU hX hue hmf hfc hlt2 hF2 hul hXd
         generalize hS2 : str s2 = S2 at *
         go_wp2_with fail
         refine (HU.out _).mono ?_
         rintro e w5 ⟨au, cu, rfl, hrow5, hb5⟩
         have hbw5 := below_then hbw hb5
         have hnu := row_nums hrow5
         have HNU := Lib.hid hnu
         clear hrow5 hnu
         go_wp2_with fail
         go_loopw [14, 15] (fun v i wx => ∃ j : Nat, j ≤ q ∧ i = .int .i64 j ∧ v = .int .u64 ((M.cnt ((ofOnes u).take j) : Nat) : Int) ∧ wx = w5) (fun _ i _ => q - (intOf i).toNat)
         case atStart => exact ⟨0, by omega, rfl, rfl, rfl⟩
         case round =>
          obtain ⟨j, hj, rfl, rfl, rfl⟩ := hrel
          by_cases hlt3 : j < q
          ·obtain ⟨bb, ob, rfl, hbb, hcc⟩ := HNU.out (fun e => by have := HUL.out; rw [e] at this; simp at this; omega)
           have kc := hcc j (by rw [HUL.out]; exact hlt3)
           have hst := HST.out j hlt3
           have hcb := HCB.out j
           have hcb1 := HCB.out (j + 1)
           have hjI : (j : Int) < (q : Int) := by omega
           generalize u.getD j 0 = x at *
           have HS1 := Lib.hid hst
           clear hcc
           have hxb : x ≤ 64 := by omega
           generalize M.cnt ((ofOnes u).take j) = p at *
           have hwp : IntKind.u64.wrap ((p : Int) + (x : Int)) = (p : Int) + (x : Int) := by rw [IntKind.wrap_u64]; omega
           clear hst
           go_wp2_with fail
           exact ⟨⟨j + 1, by omega, by go_num, by rw [HS1.out]; simp, trivial⟩, by simp [intOf]; omega⟩
          ·obtain rfl : j = q := by omega
           rw [HAL.out]
           by_cases hF3 : M.cnt (ofOnes u) ≠ d
           ·have he3 : e3 = 1 := by have h := HWR.out; rw [if_pos hF3] at h; exact congrArg (fun x : List Bool × List UInt8 × Nat => x.2.2) h
            have HRE := Lib.hid (HBE2.out 1 (by unfold Pg.restR; rw [he3]; exact if_pos (by simp)) (by decide))
            have gc : ((M.cnt (ofOnes u) : Int) != (d : Int)) = true := by rw [bne_iff_ne]; omega
            generalize M.cnt (ofOnes u) = p at *
            clear hF3 he3
            go_wp2_with fail
            go_ret3
            rw [HRE.out]; exact BodyPost.none 1 hbw5
           ·have hcd : M.cnt (ofOnes u) = d := Classical.not_not.1 hF3
            have hw := HWR.out
            rw [if_neg hF3] at hw
            obtain ⟨hm1, hm2⟩ := (Prod.mk.injEq _ _ _ _).mp hw
            obtain ⟨hs3, he3⟩ := (Prod.mk.injEq _ _ _ _).mp hm2
            have hx3 : S2.extract z S2.size = str s3 := by rw [HXD.out, hs3]
            have hnm : Nums wr wr.heap.size au (ones m) := by rw [hm1, HOO.out]; exact HNU.out
            have gc : ((d : Int) != (d : Int)) = false := by simp
            rw [hcd]
            clear hF3 hw hm2 hcd
            go_wp2_with fail
            go_meet
            exact ⟨he3, by rw [← hs3], rfl, ⟨_, _, rfl, hnm⟩, hbw5⟩
      ·have gr : decide (0 < r) = true := decide_eq_true (by omega)
       have gr' : decide ((0 : Int) < (r : Int)) = true := decide_eq_true (by omega)
       have hzz : IntKind.i64.wrap ((Z0 : Int) + 1) = (z : Int) := by rw [IntKind.wrap_i64]; omega
       have hz64 : z ≤ 64 := by omega
       clear hr0 hz8 hr hZ0
       by_cases hF1 : s2.length < z
       ·rw [if_pos hF1] at hWR
        have he3 : e3 = 5 := congrArg (fun x : List Bool × List UInt8 × Nat => x.2.2) hWR
        have HRE := Lib.hid (HBE2.out 5 (by unfold Pg.restR; rw [he3]; exact if_pos (by simp)) (by decide))
        have g1 : decide (((str s2).size : Int) < (z : Int)) = true := decide_eq_true (by omega)
        have g1' : decide ((str s2).size < z) = true := decide_eq_true (by omega)
        clear hF1 hWR he3 HBE2 HBO2 h5 H5 hWF hsz2
        generalize str s2 = S2 at *
        go_wp2_with fail
        go_ret3
        rw [HRE.out]; exact BodyPost.none 5 hbw
       ·rw [if_neg hF1] at hWR
        have g1 : decide (((str s2).size : Int) < (z : Int)) = false := decide_eq_false (by omega)
        have g1' : decide ((str s2).size < z) = false := decide_eq_false (by omega)
        have hzS : z ≤ (str s2).size := by omega
        have hzSI : (z : Int) ≤ ((str s2).size : Int) := by omega
        have hX : (str s2).extract 0 z = str (s2.take z) := by have := str_cut s2 0 z; rw [Nat.zero_add] at this; simpa using this
        have hXd : (str s2).extract z (str s2).size = str (s2.drop z) := str_drop s2 z
        have hU := fun W => unpackOo_any (str (s2.take z)) q 1 W (by rw [str_size, List.length_take]; unfold maxLen; omega)
        rw [str_data, ← hX] at hU
        unfold AllPostO at hU
        obtain ⟨u, em, hue⟩ : ∃ u em, unpR (s2.take z) q 1 = (u, em) := ⟨_, _, rfl⟩
        have hmf : mofR (s2.take z) q = (ofOnes u, em) := by unfold mofR; rw [hue]
        have hfc := unpR_facts2 (s := s2.take z) (m := q) (wd := 1) hue
        have hlt2 : ∀ x ∈ u, x < 2 := by
         intro x hx
         have e1 : u = (unpR (s2.take z) q 1).1 := by rw [hue]
         rw [e1] at hx
         unfold unpR at hx
         split at hx
         ·exact Go.Proofs.YtcachhnhncodoaaGreat.B.dg_lt _ _ _ x hx
         ·simp at hx
        rw [hue] at hU
        rw [hmf] at hWR
        simp only at hU hWR
        by_cases hF2 : em ≠ 0
        ·rw [if_pos hF2] at hWR
         have he3 : e3 = em := congrArg (fun x : List Bool × List UInt8 × Nat => x.2.2) hWR
         have HRE := Lib.hid (HBE2.out em (by unfold Pg.restR; rw [he3]; exact if_pos hF2) hF2)
         have ge : ((em : Int) != 0) = true := by rw [bne_iff_ne]; omega
         have HU := Lib.hid hU
         clear hF1 hWR he3 HBE2 HBO2 h5 H5 hWF hsz2 hU hX hXd hue hmf hfc hlt2 hF2
         generalize str s2 = S2 at *
         go_wp2_with fail
         refine (HU.out _).mono ?_
         rintro e w5 ⟨au, cu, rfl, hrow5, hb5⟩
         go_wp2_with fail
         go_ret3
         rw [HRE.out]; exact BodyPost.none em (below_then hbw hb5)
        ·obtain rfl : em = 0 := Classical.not_not.1 hF2
         rw [if_neg hF2] at hWR
         have hul := (hfc.2 rfl).1
         rw [hul] at hU
         have HU := Lib.hid hU
         have HOO := Lib.hid (ones_ofOnes u hlt2)
         have HST := Lib.hid (fun j (h : j < q) => show M.cnt ((ofOnes u).take (j + 1)) = M.cnt ((ofOnes u).take j) + u.getD j 0 by
          rw [M.cnt_snoc _ j (by unfold ofOnes; rw [List.length_map]; omega)]
          have hx := hlt2 (u.getD j 0) (getD_mem u j (by omega))
          have e1 : (ofOnes u).getD j false = (u.getD j 0 == 1) := by unfold ofOnes; simp [List.getD, List.getElem?_map, List.getElem?_eq_getElem (show j < u.length by omega)]
          rw [e1]
          have : u.getD j 0 = 0 ∨ u.getD j 0 = 1 := by omega
          rcases this with h | h <;> rw [h] <;> rfl)
         have HCB := Lib.hid (fun j => show M.cnt ((ofOnes u).take j) ≤ 64 from Nat.le_trans (M.cnt_le _) (by unfold ofOnes; rw [List.length_take, List.length_map]; omega))
         have HAL := Lib.hid (show M.cnt ((ofOnes u).take q) = M.cnt (ofOnes u) by rw [List.take_of_length_le (by unfold ofOnes; rw [List.length_map]; omega)])
         have HUL := Lib.hid hul
         have HWR := Lib.hid hWR
         have HXD := Lib.hid hXd
         clear hF1 hWR h5 H5 hWF hsz2 hU hX hue hmf hfc hlt2 hF2 hul hXd
         generalize hS2 : str s2 = S2 at *
         go_wp2_with fail
         refine (HU.out _).mono ?_
         rintro e w5 ⟨au, cu, rfl, hrow5, hb5⟩
         have hbw5 := below_then hbw hb5
         have hnu := row_nums hrow5
         have HNU := Lib.hid hnu
         clear hrow5 hnu
         go_wp2_with fail
         go_loopw [14, 15] (fun v i wx => ∃ j : Nat, j ≤ q ∧ i = .int .i64 j ∧ v = .int .u64 ((M.cnt ((ofOnes u).take j) : Nat) : Int) ∧ wx = w5) (fun _ i _ => q - (intOf i).toNat)
         case atStart => exact ⟨0, by omega, rfl, rfl, rfl⟩
         case round =>
          obtain ⟨j, hj, rfl, rfl, rfl⟩ := hrel
          by_cases hlt3 : j < q
          ·obtain ⟨bb, ob, rfl, hbb, hcc⟩ := HNU.out (fun e => by have := HUL.out; rw [e] at this; simp at this; omega)
           have kc := hcc j (by rw [HUL.out]; exact hlt3)
           have hst := HST.out j hlt3
           have hcb := HCB.out j
           have hcb1 := HCB.out (j + 1)
           have hjI : (j : Int) < (q : Int) := by omega
           generalize u.getD j 0 = x at *
           have HS1 := Lib.hid hst
           clear hcc
           have hxb : x ≤ 64 := by omega
           generalize M.cnt ((ofOnes u).take j) = p at *
           have hwp : IntKind.u64.wrap ((p : Int) + (x : Int)) = (p : Int) + (x : Int) := by rw [IntKind.wrap_u64]; omega
           clear hst
           go_wp2_with fail
           exact ⟨⟨j + 1, by omega, by go_num, by rw [HS1.out]; simp, trivial⟩, by simp [intOf]; omega⟩
          ·obtain rfl : j = q := by omega
           rw [HAL.out]
           by_cases hF3 : M.cnt (ofOnes u) ≠ d
           ·have he3 : e3 = 1 := by have h := HWR.out; rw [if_pos hF3] at h; exact congrArg (fun x : List Bool × List UInt8 × Nat => x.2.2) h
            have HRE := Lib.hid (HBE2.out 1 (by unfold Pg.restR; rw [he3]; exact if_pos (by simp)) (by decide))
            have gc : ((M.cnt (ofOnes u) : Int) != (d : Int)) = true := by rw [bne_iff_ne]; omega
            generalize M.cnt (ofOnes u) = p at *
            clear hF3 he3
            go_wp2_with fail
            go_ret3
            rw [HRE.out]; exact BodyPost.none 1 hbw5
           ·have hcd : M.cnt (ofOnes u) = d := Classical.not_not.1 hF3
            have hw := HWR.out
            rw [if_neg hF3] at hw
            obtain ⟨hm1, hm2⟩ := (Prod.mk.injEq _ _ _ _).mp hw
            obtain ⟨hs3, he3⟩ := (Prod.mk.injEq _ _ _ _).mp hm2
            have hx3 : S2.extract z S2.size = str s3 := by rw [HXD.out, hs3]
            have hnm : Nums wr wr.heap.size au (ones m) := by rw [hm1, HOO.out]; exact HNU.out
            have gc : ((d : Int) != (d : Int)) = false := by simp
            rw [hcd]
            clear hF3 hw hm2 hcd
            go_wp2_with fail
            go_meet
            exact ⟨he3, by rw [← hs3], rfl, ⟨_, _, rfl, hnm⟩, hbw5⟩
     ·have gA : decide (d < q) = false := decide_eq_false hA
      have gA' : decide ((d : Int) < (q : Int)) = false := decide_eq_false (by omega)
      have hw : Pg.whichR s2 q d = (List.replicate q true, s2, 0) := by unfold Pg.whichR; exact if_pos (by omega)
      rw [H5.out] at hw
      obtain ⟨hm1, hm2⟩ := (Prod.mk.injEq _ _ _ _).mp hw
      obtain ⟨hs3, he3⟩ := (Prod.mk.injEq _ _ _ _).mp hm2
      have hnm : Nums wr wr.heap.size a1 (ones m) := by rw [hm1, rep_ones]; exact hN1
      have hx3 : str s2 = str s3 := by rw [hs3]
      clear hw hm2 hm1 hs3 h5 H5 hWF hz8
      go_wp2_with fail
      go_meet
      exact ⟨he3, by rw [hx3], rfl, ⟨_, _, rfl, hnm⟩, hbw⟩
    case rest =>
     obtain ⟨h30, rfl, rfl, ⟨ab, cb, rfl, hbits⟩, hbc⟩ := hcut
     obtain ⟨hml, hcnt, hl3⟩ := hWF h30
     have hs3l : s3.length ≤ 140737488351232 := by omega
     have hsz3 := str_size s3
     subst h30
     clear h5 H5 hz8 hWF
     by_cases g4 : d = 0
     ·have hc0 : M.cnt m = 0 := hcnt.trans g4
      have gd : ((d : Int) == 0) = true := by rw [beq_iff_eq]; omega
      by_cases g5 : s3 = []
      ·have HRE0 := Lib.hid (HBO2.out (List.replicate q C.null) (by unfold Pg.restR; simp only; rw [if_neg (by simp), if_pos g4, if_neg (by simpa using g5)]))
       have gs : decide ((0 : Int) < ((str s3).size : Int)) = false := decide_eq_false (by rw [hsz3, g5]; simp)
       have gs' : decide (0 < (str s3).size) = false := decide_eq_false (by rw [hsz3, g5]; simp)
       generalize str s3 = S3 at *
       clear g4 g5 hsz3 HBO2 HBE2 hl3 hs3l
       have hwc := hbc
       have HBI := Lib.hid hbits
       clear hbits
       go_wp2_with fail
       obtain ⟨cs, hcs⟩ : ∃ cs, cs = ([] : List C.Cl) := ⟨_, rfl⟩
       have HRE := Lib.hid (show R = (((1 : Nat) : Int), C.join m cs, 0) by rw [hcs, join_none hc0, hml]; exact HRE0.out)
       have HJT := Lib.hid (fun j (h : j < m.length) => join_take m cs j h)
       have HJL := Lib.hid (fun j => show ((C.join m cs).take j).length ≤ 64 by rw [List.length_take, C.join_length]; omega)
       have HJA := Lib.hid (show (C.join m cs).take q = C.join m cs by rw [List.take_of_length_le (by rw [C.join_length]; omega)])
       have HCS := Lib.hid (fun j (h : j < m.length) => M.cnt_snoc m j h)
       have HCL := Lib.hid (fun j => show M.cnt (m.take j) ≤ d by rw [← hcnt]; exact M.cnt_take_le m j)
       have HBA := Lib.hid (fun j (h : j < q) => ones_at m j (by omega))
       have HML := Lib.hid hml
       have HCA := Lib.hid (cnt_all hc0)
       have hsz3w := hwc.size
       have hol : (ones m).length = q := by rw [ones_length]; exact hml
       have HOL := Lib.hid hol
       clear hcs hml hcnt hol hc0
       generalize C.join m cs = J at *
       go_loopw [18, 19, 20] (fun v at_ i wr3 => ∃ j : Nat, j ≤ q ∧ i = .int .i64 j ∧ at_ = .int .i64 ((M.cnt (m.take j) : Nat) : Int) ∧ CRow wc.heap.size (J.take j) v wr3 ∧ Below wc.heap.size wc wr3) (fun _ _ i _ => q - (intOf i).toNat)
       case atStart => exact ⟨0, by omega, rfl, rfl, cnilRow _ _, Below.refl _ _⟩
       case round =>
        obtain ⟨j, hj, rfl, rfl, hrowc, hbwc⟩ := hrel
        rename World => wr3
        by_cases hlt3 : j < q
        ·obtain ⟨bb, ob, rfl, hbb, hbc3⟩ := HBI.out (fun e => by have := congrArg List.length e; rw [HOL.out] at this; simp at this; omega)
         have kb := (hbwc.cell (p := ⟨bb, ob + j, none⟩) hbb).trans (hbc3 j (by rw [HOL.out]; exact hlt3))
         rw [HBA.out j hlt3] at kb
         have hjt := HJT.out j (by rw [HML.out]; exact hlt3)
         have hcsn := HCS.out j (by rw [HML.out]; exact hlt3)
         have hjl := HJL.out j
         have hcl1 := HCL.out (j + 1)
         have hjq : (j : Int) < (q : Int) := by omega
         clear hbc3
         have hb := HCA.out j
         rw [hb] at kb hjt hcsn
         rw [if_neg (by simp)] at hjt hcsn
         rw [if_neg (by simp)] at kb
         have HJN := Lib.hid hjt
         have HCN := Lib.hid hcsn
         have HROW := Lib.hid hrowc
         have hb5 : wc.heap.size ≤ (wr3.alloc (.cells #[.int .i64 0, .int .u64 0, .string ⟨#[]⟩] 50)).heap.size := by have := hbwc.size; simp; omega
         have hxl : ((J.take j).length + 1) * 32 ≤ 140737488355328 := by omega
         generalize J.take j = xs at *
         generalize M.cnt (m.take j) = p at *
         clear hjt hcsn hrowc hjl hcl1 hb
         go_wp2_with (at_builtin; refine wpList_append_onec rfl (.tmp 155) (.tmp 157) rfl wc.heap.size _ xs rfl (HROW.out.alloc_ _) wr3.heap.size C.null rfl (World.cell?_alloc_new _ _ _ _) (World.cell?_alloc_new _ _ _ _) (World.cell?_alloc_new _ _ _ _) hxl hb5 ?_)
         intro v' w4 hrow4 hb4 hgr4
         go_wp2_with fail
         exact ⟨⟨j + 1, by omega, by go_num, by rw [HCN.out]; rfl, by rw [HJN.out]; exact hrow4, (hbwc.alloc hbwc.size _).trans hb4⟩, by simp [intOf]; omega⟩
        ·obtain rfl : j = q := by omega
         rw [HJA.out] at hrowc
         go_wp2_with fail
         go_ret3
         rw [HRE.out]
         exact ⟨_, rfl, hrowc.weak hsz3w, hwc.trans (hbwc.mono hsz3w)⟩
      ·have HRE := Lib.hid (HBE2.out 1 (by unfold Pg.restR; simp only; rw [if_neg (by simp), if_pos g4, if_pos g5]) (by decide))
       have hsl : s3.length ≠ 0 := fun e => g5 (List.eq_nil_of_length_eq_zero e)
       have gs : decide ((0 : Int) < ((str s3).size : Int)) = true := decide_eq_true (by omega)
       have gs' : decide (0 < (str s3).size) = true := decide_eq_true (by omega)
       generalize str s3 = S3 at *
       clear g4 g5 hsz3 HBO2 HBE2 hl3 hs3l hml hcnt hsl hbits hc0
       go_wp2_with fail
       go_ret3
       rw [HRE.out]; exact BodyPost.none 1 hbc
     ·have gd : ((d : Int) == 0) = false := by rw [beq_eq_false_iff_ne]; omega
      have hd64 : d ≤ 64 := by omega
      have hN := fun W => nlof_any s3 d W (by unfold maxLen; omega)
      unfold AllPost at hN
      have htd := (show Pg.toldR s3 ((1 : Nat) : Int) d = ((nlR s3 d).1.map fun x => (⟨1, x, []⟩ : C.Cl), (nlR s3 d).2) from rfl)
      by_cases g6 : (nlR s3 d).2 ≠ 0
      ·have HRE := Lib.hid (HBE2.out (nlR s3 d).2 (by unfold Pg.restR; simp only; rw [if_neg (by simp), if_neg g4, htd]; exact if_pos g6) g6)
       have HN := Lib.hid hN
       generalize (nlR s3 d).2 = em at *
       generalize (nlR s3 d).1 = ns at *
       have ge : ((em : Int) != 0) = true := by rw [bne_iff_ne]; omega
       generalize str s3 = S3 at *
       clear g4 g6 hsz3 HBO2 HBE2 hl3 hs3l hml hcnt hbits htd hN
       go_wp2_with fail
       refine (HN.out _).mono ?_
       rintro e w3 ⟨an, cn, rfl, hns, hb3⟩
       go_wp2_with fail
       go_ret3
       rw [HRE.out]; exact BodyPost.none em (below_then hbc hb3)
      ·have g60 : (nlR s3 d).2 = 0 := Classical.not_not.1 g6
       have hnl := (Pg.nlR_ok hd64 g60).1
       have HRE := Lib.hid (HBO2.out (C.join m ((nlR s3 d).1.map fun x => (⟨1, x, []⟩ : C.Cl))) (by unfold Pg.restR; simp only; rw [if_neg (by simp), if_neg g4, htd]; exact if_neg g6))
       rw [g60] at hN
       have HN := Lib.hid hN
       generalize (nlR s3 d).1 = ns at *
       have HNL := Lib.hid hnl
       generalize str s3 = S3 at *
       clear g4 g6 g60 hsz3 HBO2 HBE2 hl3 hs3l htd hN hnl
       go_wp2_with fail
       refine (HN.out _).mono ?_
       rintro e w3 ⟨an, cn, rfl, hns, hb3⟩
       have hw3 := below_then hbc hb3
       have HBI := Lib.hid (hbits.next hb3)
       have HNS := Lib.hid hns
       clear hbits hns hb3
       go_wp2_with fail
       obtain ⟨cs, hcs⟩ : ∃ cs, cs = (ns.map fun x => (⟨1, x, []⟩ : C.Cl)) := ⟨_, rfl⟩
       rw [← hcs] at HRE
       have HJT := Lib.hid (fun j (h : j < m.length) => join_take m cs j h)
       have HJL := Lib.hid (fun j => show ((C.join m cs).take j).length ≤ 64 by rw [List.length_take, C.join_length]; omega)
       have HJA := Lib.hid (show (C.join m cs).take q = C.join m cs by rw [List.take_of_length_le (by rw [C.join_length]; omega)])
       have HCS := Lib.hid (fun j (h : j < m.length) => M.cnt_snoc m j h)
       have HCL := Lib.hid (fun j => show M.cnt (m.take j) ≤ d by rw [← hcnt]; exact M.cnt_take_le m j)
       have HBA := Lib.hid (fun j (h : j < q) => ones_at m j (by omega))
       have HML := Lib.hid hml
       have HGD := Lib.hid (fun p (h : p < ns.length) => show cs.getD p C.null = ⟨1, ns.getD p 0, []⟩ by rw [hcs]; simp [List.getD, List.getElem?_map, List.getElem?_eq_getElem h])
       have hsz3w := hw3.size
       have hol : (ones m).length = q := by rw [ones_length]; exact hml
       have HOL := Lib.hid hol
       clear hcs hml hcnt hol
       generalize C.join m cs = J at *
       go_loopw [18, 19, 20] (fun v at_ i wr3 => ∃ j : Nat, j ≤ q ∧ i = .int .i64 j ∧ at_ = .int .i64 ((M.cnt (m.take j) : Nat) : Int) ∧ CRow w3.heap.size (J.take j) v wr3 ∧ Below w3.heap.size w3 wr3) (fun _ _ i _ => q - (intOf i).toNat)
       case atStart => exact ⟨0, by omega, rfl, rfl, cnilRow _ _, Below.refl _ _⟩
       case round =>
        obtain ⟨j, hj, rfl, rfl, hrow3, hbw3⟩ := hrel
        rename World => wr3
        by_cases hlt3 : j < q
        ·obtain ⟨bb, ob, rfl, hbb, hbc3⟩ := HBI.out (fun e => by have := congrArg List.length e; rw [HOL.out] at this; simp at this; omega)
         have kb := (hbw3.cell (p := ⟨bb, ob + j, none⟩) hbb).trans (hbc3 j (by rw [HOL.out]; exact hlt3))
         rw [HBA.out j hlt3] at kb
         have hjt := HJT.out j (by rw [HML.out]; exact hlt3)
         have hcsn := HCS.out j (by rw [HML.out]; exact hlt3)
         have hjl := HJL.out j
         have hcl1 := HCL.out (j + 1)
         have hjq : (j : Int) < (q : Int) := by omega
         clear hbc3
         cases hb : m.getD j false with
         | false =>
          rw [hb] at kb hjt hcsn
          rw [if_neg (by simp)] at hjt hcsn
          rw [if_neg (by simp)] at kb
          have HJN := Lib.hid hjt
          have HCN := Lib.hid hcsn
          have HROW := Lib.hid hrow3
          have hb5 : w3.heap.size ≤ (wr3.alloc (.cells #[.int .i64 0, .int .u64 0, .string ⟨#[]⟩] 50)).heap.size := by have := hbw3.size; simp; omega
          have hxl : ((J.take j).length + 1) * 32 ≤ 140737488355328 := by omega
          generalize J.take j = xs at *
          generalize M.cnt (m.take j) = p at *
          clear hjt hcsn hrow3 hjl hcl1 hb
          go_wp2_with (at_builtin; refine wpList_append_onec rfl (.tmp 155) (.tmp 157) rfl w3.heap.size _ xs rfl (HROW.out.alloc_ _) wr3.heap.size C.null rfl (World.cell?_alloc_new _ _ _ _) (World.cell?_alloc_new _ _ _ _) (World.cell?_alloc_new _ _ _ _) hxl hb5 ?_)
          intro v' w4 hrow4 hb4 hgr4
          go_wp2_with fail
          exact ⟨⟨j + 1, by omega, by go_num, by rw [HCN.out]; rfl, by rw [HJN.out]; exact hrow4, (hbw3.alloc hbw3.size _).trans hb4⟩, by simp [intOf]; omega⟩
         | true =>
          rw [hb] at kb hjt hcsn
          rw [if_pos rfl] at hjt hcsn
          rw [if_pos rfl] at kb
          have hpn : M.cnt (m.take j) < ns.length := by have := HNL.out; omega
          have hp64 : M.cnt (m.take j) ≤ 64 := by have := HNL.out; omega
          rw [HGD.out _ hpn] at hjt
          have HJN := Lib.hid hjt
          have HCN := Lib.hid hcsn
          have HROW := Lib.hid hrow3
          obtain ⟨nb, no, rfl, hnb, hnc⟩ := HNS.out (fun e => by rw [e] at hpn; simp at hpn)
          have kn := (hbw3.cell (p := ⟨nb, no + M.cnt (m.take j), none⟩) hnb).trans (hnc _ hpn)
          have hpI : ((M.cnt (m.take j) : Nat) : Int) < (ns.length : Int) := by omega
          generalize M.cnt (m.take j) = p at *
          generalize ns.getD p 0 = x at *
          have hb5 : w3.heap.size ≤ (wr3.alloc (.cells #[.int .i64 1, .int .u64 (x : Int), .string ⟨#[]⟩] 50)).heap.size := by have := hbw3.size; simp; omega
          have hxl : ((J.take j).length + 1) * 32 ≤ 140737488355328 := by omega
          generalize J.take j = xs at *
          clear hjt hcsn hrow3 hjl hcl1 hb hnc
          go_wp2_with (at_builtin; refine wpList_append_onec rfl (.tmp 161) (.tmp 167) rfl w3.heap.size _ xs rfl (HROW.out.alloc_ _) wr3.heap.size ⟨1, x, []⟩ rfl (World.cell?_alloc_new _ _ _ _) (World.cell?_alloc_new _ _ _ _) (World.cell?_alloc_new _ _ _ _) hxl hb5 ?_)
          intro v' w4 hrow4 hb4 hgr4
          go_wp2_with fail
          exact ⟨⟨j + 1, by omega, by go_num, by rw [HCN.out]; go_num, by rw [HJN.out]; exact hrow4, (hbw3.alloc hbw3.size _).trans hb4⟩, by simp [intOf]; omega⟩
        ·obtain rfl : j = q := by omega
         rw [HJA.out] at hrow3
         go_wp2_with fail
         go_ret3
         rw [HRE.out]
         exact ⟨_, rfl, hrow3.weak hsz3w, hw3.trans (hbw3.mono hsz3w)⟩
 ·go_enter Tryz.func31, Tryz.ntmps31
  go_wp2_with fail
  refine (HV1.out _).mono ?_
  rintro e w1 ⟨rfl, hb1⟩
  go_wp2_with fail
  refine (HV2.out _).mono ?_
  rintro e w2 ⟨rfl, hb2⟩
  have h2b := below_then hb1 hb2
  go_wp2_with fail
  go_loopw [11, 12] (fun v i wr => ∃ q : Nat, q ≤ n ∧ i = .int .i64 q ∧ NumRow w.heap.size (List.replicate q 1) v wr ∧ Below w.heap.size w wr) (fun _ i _ => n - (intOf i).toNat)
  case atStart => exact ⟨0, by omega, rfl, ⟨rfl, Or.inl ⟨rfl, rfl⟩⟩, h2b⟩
  case round =>
   obtain ⟨q, hq, rfl, hrow, hbw⟩ := hrel
   by_cases hlt : q < n
   ·have hqI : (q : Int) < (n : Int) := by omega
    have hxl : (q + 1) * 8 ≤ 140737488355328 := by omega
    have HROW := Lib.hid (show wr.ownsRow w.heap.size 34 1 u11 q (nv (List.replicate q 1)) by have := hrow; unfold NumRow at this; rw [List.length_replicate] at this; exact this)
    have hb5 : w.heap.size ≤ (wr.alloc (.cells #[.int .u64 ((1 : Nat) : Int)] 34)).heap.size := by have := hbw.size; simp; omega
    clear hrow
    go_wp2_with (at_builtin; refine wpList_append_one rfl (.tmp 72) (.tmp 73) rfl w.heap.size _ q _ rfl (HROW.out.alloc _) wr.heap.size 1 rfl (World.cell?_alloc_new _ _ _ _) hxl hb5 ?_)
    intro v' w3 hown3 hgrow3
    go_wp2_with fail
    have hbw3 : Below w.heap.size w w3 := (hbw.alloc hbw.size _).grown hgrow3 (by have := hbw.size; simp; omega) (fun k hk => (HROW.out.lt k hk).1)
    refine ⟨⟨q + 1, by omega, by go_num, ?_, hbw3⟩, by simp [intOf]; omega⟩
    unfold NumRow
    rw [List.length_replicate, List.replicate_succ']
    simpa [nv] using hown3
   ·obtain rfl : q = n := by omega
    clear hb1 hb2 h2b HV1 HV2
    go_upto_if 77 with fail
    go_cut [0, 8, 11, 13, 14, 15] from 66 to 182 (fun s0 e8 v11 x13 x14 x15 wx => e3 = 0 ∧ s0 = .string (str s3) ∧ e8 = .int .i64 0 ∧ (∃ a c, v11 = .slice a q c ∧ Nums wx wx.heap.size a (ones m)) ∧ Below w.heap.size w wx)
    case first =>
     obtain ⟨a1, c1, rfl, hN1⟩ := numRow_nums hrow
     rw [List.length_replicate]
     clear hrow
     rename World => wr
     by_cases hA : d < q
     ·have gA : decide (d < q) = true := decide_eq_true hA
      have gA' : decide ((d : Int) < (q : Int)) = true := decide_eq_true (by omega)
      have hWR : Pg.whichR s2 q d = if s2.length < z then ([], [], 5) else if (mofR (s2.take z) q).2 ≠ 0 then ([], [], (mofR (s2.take z) q).2) else if M.cnt (mofR (s2.take z) q).1 ≠ d then ([], [], 1) else ((mofR (s2.take z) q).1, s2.drop z, 0) := by
       unfold Pg.whichR; rw [if_neg (by omega), hz8]
      rw [H5.out] at hWR
      obtain ⟨Z0, hZ0⟩ : ∃ Z0, Z0 = q / 8 := ⟨_, rfl⟩
      obtain ⟨r, hr⟩ : ∃ r, r = q % 8 := ⟨_, rfl⟩
      have hq8 : (q : Int) / 8 = (Z0 : Int) := by omega
      have hq9 : (q : Int).tdiv 8 = (Z0 : Int) := by rw [Int.tdiv_eq_ediv_of_nonneg (by omega)]; exact hq8
      have hwZ : IntKind.i64.wrap (Z0 : Int) = (Z0 : Int) := by rw [IntKind.wrap_i64]; omega
      have hr8 : (q : Int) % 8 = (r : Int) := by omega
      have hr9 : (q : Int).tmod 8 = (r : Int) := by rw [Int.tmod_eq_emod_of_nonneg (by omega)]; exact hr8
      have hwr : IntKind.u64.wrap (r : Int) = (r : Int) := by rw [IntKind.wrap_u64]; omega
      have hq64 : q ≤ 64 := hn64
      have hd64 : d ≤ 64 := by omega
      by_cases hr0 : r = 0
      ·have gr : decide (0 < r) = false := decide_eq_false (by omega)
       have gr' : decide ((0 : Int) < (r : Int)) = false := decide_eq_false (by omega)
       obtain rfl : z = Z0 := by omega
       clear hr0 hz8 hr hZ0
       by_cases hF1 : s2.length < z
       ·rw [if_pos hF1] at hWR
        have he3 : e3 = 5 := congrArg (fun x : List Bool × List UInt8 × Nat => x.2.2) hWR
        have HRE := Lib.hid (HBE2.out 5 (by unfold Pg.restR; rw [he3]; exact if_pos (by simp)) (by decide))
        have g1 : decide (((str s2).size : Int) < (z : Int)) = true := decide_eq_true (by omega)
        have g1' : decide ((str s2).size < z) = true := decide_eq_true (by omega)
        clear hF1 hWR he3 HBE2 HBO2 h5 H5 hWF hsz2
        generalize str s2 = S2 at *
        go_wp2_with fail
        go_ret3
        rw [HRE.out]; exact BodyPost.none 5 hbw
       ·rw [if_neg hF1] at hWR
        have g1 : decide (((str s2).size : Int) < (z : Int)) = false := decide_eq_false (by omega)
        have g1' : decide ((str s2).size < z) = false := decide_eq_false (by omega)
        have hzS : z ≤ (str s2).size := by omega
        have hzSI : (z : Int) ≤ ((str s2).size : Int) := by omega
        have hX : (str s2).extract 0 z = str (s2.take z) := by have := str_cut s2 0 z; rw [Nat.zero_add] at this; simpa using this
        have hXd : (str s2).extract z (str s2).size = str (s2.drop z) := str_drop s2 z
        have hU := fun W => unpackOo_any (str (s2.take z)) q 1 W (by rw [str_size, List.length_take]; unfold maxLen; omega)
        rw [str_data, ← hX] at hU
        unfold AllPostO at hU
        obtain ⟨u, em, hue⟩ : ∃ u em, unpR (s2.take z) q 1 = (u, em) := ⟨_, _, rfl⟩
        have hmf : mofR (s2.take z) q = (ofOnes u, em) := by unfold mofR; rw [hue]
        have hfc := unpR_facts2 (s := s2.take z) (m := q) (wd := 1) hue
        have hlt2 : ∀ x ∈ u, x < 2 := by
         intro x hx
         have e1 : u = (unpR (s2.take z) q 1).1 := by rw [hue]
         rw [e1] at hx
         unfold unpR at hx
         split at hx
         ·exact Go.Proofs.YtcachhnhncodoaaGreat.B.dg_lt _ _ _ x hx
         ·simp at hx
        rw [hue] at hU
        rw [hmf] at hWR
        simp only at hU hWR
        by_cases hF2 : em ≠ 0
        ·rw [if_pos hF2] at hWR
         have he3 : e3 = em := congrArg (fun x : List Bool × List UInt8 × Nat => x.2.2) hWR
         have HRE := Lib.hid (HBE2.out em (by unfold Pg.restR; rw [he3]; exact if_pos hF2) hF2)
         have ge : ((em : Int) != 0) = true := by rw [bne_iff_ne]; omega
         have HU := Lib.hid hU
         clear hF1 hWR he3 HBE2 HBO2 h5 H5 hWF hsz2 hU hX hXd hue hmf hfc hlt2 hF2
         generalize str s2 = S2 at *
         go_wp2_with fail
         refine (HU.out _).mono ?_
         rintro e w5 ⟨au, cu, rfl, hrow5, hb5⟩
         go_wp2_with fail
         go_ret3
         rw [HRE.out]; exact BodyPost.none em (below_then hbw hb5)
        ·obtain rfl : em = 0 := Classical.not_not.1 hF2
         rw [if_neg hF2] at hWR
         have hul := (hfc.2 rfl).1
         rw [hul] at hU
         have HU := Lib.hid hU
         have HOO := Lib.hid (ones_ofOnes u hlt2)
         have HST := Lib.hid (fun j (h : j < q) => show M.cnt ((ofOnes u).take (j + 1)) = M.cnt ((ofOnes u).take j) + u.getD j 0 by
          rw [M.cnt_snoc _ j (by unfold ofOnes; rw [List.length_map]; omega)]
          have hx := hlt2 (u.getD j 0) (getD_mem u j (by omega))
          have e1 : (ofOnes u).getD j false = (u.getD j 0 == 1) := by unfold ofOnes; simp [List.getD, List.getElem?_map, List.getElem?_eq_getElem (show j < u.length by omega)]
          rw [e1]
          have : u.getD j 0 = 0 ∨ u.getD j 0 = 1 := by omega
          rcases this with h | h <;> rw [h] <;> rfl)
         have HCB := Lib.hid (fun j => show M.cnt ((ofOnes u).take j) ≤ 64 from Nat.le_trans (M.cnt_le _) (by unfold ofOnes; rw [List.length_take, List.length_map]; omega))
         have HAL := Lib.hid (show M.cnt ((ofOnes u).take q) = M.cnt (ofOnes u) by rw [List.take_of_length_le (by unfold ofOnes; rw [List.length_map]; omega)])
         have HUL := Lib.hid hul
         have HWR := Lib.hid hWR
         have HXD := Lib.hid hXd
         clear hF1 hWR h5 H5 hWF hsz2 hU hX hue hmf hfc hlt2 hF2 hul hXd
         generalize hS2 : str s2 = S2 at *
         go_wp2_with fail
         refine (HU.out _).mono ?_
         rintro e w5 ⟨au, cu, rfl, hrow5, hb5⟩
         have hbw5 := below_then hbw hb5
         have hnu := row_nums hrow5
         have HNU := Lib.hid hnu
         clear hrow5 hnu
         go_wp2_with fail
         go_loopw [14, 15] (fun v i wx => ∃ j : Nat, j ≤ q ∧ i = .int .i64 j ∧ v = .int .u64 ((M.cnt ((ofOnes u).take j) : Nat) : Int) ∧ wx = w5) (fun _ i _ => q - (intOf i).toNat)
         case atStart => exact ⟨0, by omega, rfl, rfl, rfl⟩
         case round =>
          obtain ⟨j, hj, rfl, rfl, rfl⟩ := hrel
          by_cases hlt3 : j < q
          ·obtain ⟨bb, ob, rfl, hbb, hcc⟩ := HNU.out (fun e => by have := HUL.out; rw [e] at this; simp at this; omega)
           have kc := hcc j (by rw [HUL.out]; exact hlt3)
           have hst := HST.out j hlt3
           have hcb := HCB.out j
           have hcb1 := HCB.out (j + 1)
           have hjI : (j : Int) < (q : Int) := by omega
           generalize u.getD j 0 = x at *
           have HS1 := Lib.hid hst
           clear hcc
           have hxb : x ≤ 64 := by omega
           generalize M.cnt ((ofOnes u).take j) = p at *
           have hwp : IntKind.u64.wrap ((p : Int) + (x : Int)) = (p : Int) + (x : Int) := by rw [IntKind.wrap_u64]; omega
           clear hst
           go_wp2_with fail
           exact ⟨⟨j + 1, by omega, by go_num, by rw [HS1.out]; simp, trivial⟩, by simp [intOf]; omega⟩
          ·obtain rfl : j = q := by omega
           rw [HAL.out]
           by_cases hF3 : M.cnt (ofOnes u) ≠ d
           ·have he3 : e3 = 1 := by have h := HWR.out; rw [if_pos hF3] at h; exact congrArg (fun x : List Bool × List UInt8 × Nat => x.2.2) h
            have HRE := Lib.hid (HBE2.out 1 (by unfold Pg.restR; rw [he3]; exact if_pos (by simp)) (by decide))
            have gc : ((M.cnt (ofOnes u) : Int) != (d : Int)) = true := by rw [bne_iff_ne]; omega
            generalize M.cnt (ofOnes u) = p at *
            clear hF3 he3
            go_wp2_with fail
            go_ret3
            rw [HRE.out]; exact BodyPost.none 1 hbw5
           ·have hcd : M.cnt (ofOnes u) = d := Classical.not_not.1 hF3
            have hw := HWR.out
            rw [if_neg hF3] at hw
            obtain ⟨hm1, hm2⟩ := (Prod.mk.injEq _ _ _ _).mp hw
            obtain ⟨hs3, he3⟩ := (Prod.mk.injEq _ _ _ _).mp hm2
            have hx3 : S2.extract z S2.size = str s3 := by rw [HXD.out, hs3]
            have hnm : Nums wr wr.heap.size au (ones m) := by rw [hm1, HOO.out]; exact HNU.out
            have gc : ((d : Int) != (d : Int)) = false := by simp
            rw [hcd]
            clear hF3 hw hm2 hcd
            go_wp2_with fail
            go_meet
            exact ⟨he3, by rw [← hs3], rfl, ⟨_, _, rfl, hnm⟩, hbw5⟩
      ·have gr : decide (0 < r) = true := decide_eq_true (by omega)
       have gr' : decide ((0 : Int) < (r : Int)) = true := decide_eq_true (by omega)
       have hzz : IntKind.i64.wrap ((Z0 : Int) + 1) = (z : Int) := by rw [IntKind.wrap_i64]; omega
       have hz64 : z ≤ 64 := by omega
       clear hr0 hz8 hr hZ0
       by_cases hF1 : s2.length < z
       ·rw [if_pos hF1] at hWR
        have he3 : e3 = 5 := congrArg (fun x : List Bool × List UInt8 × Nat => x.2.2) hWR
        have HRE := Lib.hid (HBE2.out 5 (by unfold Pg.restR; rw [he3]; exact if_pos (by simp)) (by decide))
        have g1 : decide (((str s2).size : Int) < (z : Int)) = true := decide_eq_true (by omega)
        have g1' : decide ((str s2).size < z) = true := decide_eq_true (by omega)
        clear hF1 hWR he3 HBE2 HBO2 h5 H5 hWF hsz2
        generalize str s2 = S2 at *
        go_wp2_with fail
        go_ret3
        rw [HRE.out]; exact BodyPost.none 5 hbw
       ·rw [if_neg hF1] at hWR
        have g1 : decide (((str s2).size : Int) < (z : Int)) = false := decide_eq_false (by omega)
        have g1' : decide ((str s2).size < z) = false := decide_eq_false (by omega)
        have hzS : z ≤ (str s2).size := by omega
        have hzSI : (z : Int) ≤ ((str s2).size : Int) := by omega
        have hX : (str s2).extract 0 z = str (s2.take z) := by have := str_cut s2 0 z; rw [Nat.zero_add] at this; simpa using this
        have hXd : (str s2).extract z (str s2).size = str (s2.drop z) := str_drop s2 z
        have hU := fun W => unpackOo_any (str (s2.take z)) q 1 W (by rw [str_size, List.length_take]; unfold maxLen; omega)
        rw [str_data, ← hX] at hU
        unfold AllPostO at hU
        obtain ⟨u, em, hue⟩ : ∃ u em, unpR (s2.take z) q 1 = (u, em) := ⟨_, _, rfl⟩
        have hmf : mofR (s2.take z) q = (ofOnes u, em) := by unfold mofR; rw [hue]
        have hfc := unpR_facts2 (s := s2.take z) (m := q) (wd := 1) hue
        have hlt2 : ∀ x ∈ u, x < 2 := by
         intro x hx
         have e1 : u = (unpR (s2.take z) q 1).1 := by rw [hue]
         rw [e1] at hx
         unfold unpR at hx
         split at hx
         ·exact Go.Proofs.YtcachhnhncodoaaGreat.B.dg_lt _ _ _ x hx
         ·simp at hx
        rw [hue] at hU
        rw [hmf] at hWR
        simp only at hU hWR
        by_cases hF2 : em ≠ 0
        ·rw [if_pos hF2] at hWR
         have he3 : e3 = em := congrArg (fun x : List Bool × List UInt8 × Nat => x.2.2) hWR
         have HRE := Lib.hid (HBE2.out em (by unfold Pg.restR; rw [he3]; exact if_pos hF2) hF2)
         have ge : ((em : Int) != 0) = true := by rw [bne_iff_ne]; omega
         have HU := Lib.hid hU
         clear hF1 hWR he3 HBE2 HBO2 h5 H5 hWF hsz2 hU hX hXd hue hmf hfc hlt2 hF2
         generalize str s2 = S2 at *
         go_wp2_with fail
         refine (HU.out _).mono ?_
         rintro e w5 ⟨au, cu, rfl, hrow5, hb5⟩
         go_wp2_with fail
         go_ret3
         rw [HRE.out]; exact BodyPost.none em (below_then hbw hb5)
        ·obtain rfl : em = 0 := Classical.not_not.1 hF2
         rw [if_neg hF2] at hWR
         have hul := (hfc.2 rfl).1
         rw [hul] at hU
         have HU := Lib.hid hU
         have HOO := Lib.hid (ones_ofOnes u hlt2)
         have HST := Lib.hid (fun j (h : j < q) => show M.cnt ((ofOnes u).take (j + 1)) = M.cnt ((ofOnes u).take j) + u.getD j 0 by
          rw [M.cnt_snoc _ j (by unfold ofOnes; rw [List.length_map]; omega)]
          have hx := hlt2 (u.getD j 0) (getD_mem u j (by omega))
          have e1 : (ofOnes u).getD j false = (u.getD j 0 == 1) := by unfold ofOnes; simp [List.getD, List.getElem?_map, List.getElem?_eq_getElem (show j < u.length by omega)]
          rw [e1]
          have : u.getD j 0 = 0 ∨ u.getD j 0 = 1 := by omega
          rcases this with h | h <;> rw [h] <;> rfl)
         have HCB := Lib.hid (fun j => show M.cnt ((ofOnes u).take j) ≤ 64 from Nat.le_trans (M.cnt_le _) (by unfold ofOnes; rw [List.length_take, List.length_map]; omega))
         have HAL := Lib.hid (show M.cnt ((ofOnes u).take q) = M.cnt (ofOnes u) by rw [List.take_of_length_le (by unfold ofOnes; rw [List.length_map]; omega)])
         have HUL := Lib.hid hul
         have HWR := Lib.hid hWR
         have HXD := Lib.hid hXd
         clear hF1 hWR h5 H5 hWF hsz2 hU hX hue hmf hfc hlt2 hF2 hul hXd
         generalize hS2 : str s2 = S2 at *
         go_wp2_with fail
         refine (HU.out _).mono ?_
         rintro e w5 ⟨au, cu, rfl, hrow5, hb5⟩
         have hbw5 := below_then hbw hb5
         have hnu := row_nums hrow5
         have HNU := Lib.hid hnu
         clear hrow5 hnu
         go_wp2_with fail
         go_loopw [14, 15] (fun v i wx => ∃ j : Nat, j ≤ q ∧ i = .int .i64 j ∧ v = .int .u64 ((M.cnt ((ofOnes u).take j) : Nat) : Int) ∧ wx = w5) (fun _ i _ => q - (intOf i).toNat)
         case atStart => exact ⟨0, by omega, rfl, rfl, rfl⟩
         case round =>
          obtain ⟨j, hj, rfl, rfl, rfl⟩ := hrel
          by_cases hlt3 : j < q
          ·obtain ⟨bb, ob, rfl, hbb, hcc⟩ := HNU.out (fun e => by have := HUL.out; rw [e] at this; simp at this; omega)
           have kc := hcc j (by rw [HUL.out]; exact hlt3)
           have hst := HST.out j hlt3
           have hcb := HCB.out j
           have hcb1 := HCB.out (j + 1)
           have hjI : (j : Int) < (q : Int) := by omega
           generalize u.getD j 0 = x at *
           have HS1 := Lib.hid hst
           clear hcc
           have hxb : x ≤ 64 := by omega
           generalize M.cnt ((ofOnes u).take j) = p at *
           have hwp : IntKind.u64.wrap ((p : Int) + (x : Int)) = (p : Int) + (x : Int) := by rw [IntKind.wrap_u64]; omega
           clear hst
           go_wp2_with fail
           exact ⟨⟨j + 1, by omega, by go_num, by rw [HS1.out]; simp, trivial⟩, by simp [intOf]; omega⟩
          ·obtain rfl : j = q := by omega
           rw [HAL.out]
           by_cases hF3 : M.cnt (ofOnes u) ≠ d
           ·have he3 : e3 = 1 := by have h := HWR.out; rw [if_pos hF3] at h; exact congrArg (fun x : List Bool × List UInt8 × Nat => x.2.2) h
            have HRE := Lib.hid (HBE2.out 1 (by unfold Pg.restR; rw [he3]; exact if_pos (by simp)) (by decide))
            have gc : ((M.cnt (ofOnes u) : Int) != (d : Int)) = true := by rw [bne_iff_ne]; omega
            generalize M.cnt (ofOnes u) = p at *
            clear hF3 he3
            go_wp2_with fail
            go_ret3
            rw [HRE.out]; exact BodyPost.none 1 hbw5
           ·have hcd : M.cnt (ofOnes u) = d := Classical.not_not.1 hF3
            have hw := HWR.out
            rw [if_neg hF3] at hw
            obtain ⟨hm1, hm2⟩ := (Prod.mk.injEq _ _ _ _).mp hw
            obtain ⟨hs3, he3⟩ := (Prod.mk.injEq _ _ _ _).mp hm2
            have hx3 : S2.extract z S2.size = str s3 := by rw [HXD.out, hs3]
            have hnm : Nums wr wr.heap.size au (ones m) := by rw [hm1, HOO.out]; exact HNU.out
            have gc : ((d : Int) != (d : Int)) = false := by simp
            rw [hcd]
            clear hF3 hw hm2 hcd
            go_wp2_with fail
            go_meet
            exact ⟨he3, by rw [← hs3], rfl, ⟨_, _, rfl, hnm⟩, hbw5⟩
     ·have gA : decide (d < q) = false := decide_eq_false hA
      have gA' : decide ((d : Int) < (q : Int)) = false := decide_eq_false (by omega)
      have hw : Pg.whichR s2 q d = (List.replicate q true, s2, 0) := by unfold Pg.whichR; exact if_pos (by omega)
      rw [H5.out] at hw
      obtain ⟨hm1, hm2⟩ := (Prod.mk.injEq _ _ _ _).mp hw
      obtain ⟨hs3, he3⟩ := (Prod.mk.injEq _ _ _ _).mp hm2
      have hnm : Nums wr wr.heap.size a1 (ones m) := by rw [hm1, rep_ones]; exact hN1
      have hx3 : str s2 = str s3 := by rw [hs3]
      clear hw hm2 hm1 hs3 h5 H5 hWF hz8
      go_wp2_with fail
      go_meet
      exact ⟨he3, by rw [hx3], rfl, ⟨_, _, rfl, hnm⟩, hbw⟩
    case rest =>
     obtain ⟨h30, rfl, rfl, ⟨ab, cb, rfl, hbits⟩, hbc⟩ := hcut
     obtain ⟨hml, hcnt, hl3⟩ := hWF h30
     have hs3l : s3.length ≤ 140737488351232 := by omega
     have hsz3 := str_size s3
     subst h30
     clear h5 H5 hz8 hWF
     by_cases g4 : d = 0
     ·have hc0 : M.cnt m = 0 := hcnt.trans g4
      have gd : ((d : Int) == 0) = true := by rw [beq_iff_eq]; omega
      by_cases g5 : s3 = []
      ·have HRE0 := Lib.hid (HBO2.out (List.replicate q C.null) (by unfold Pg.restR; simp only; rw [if_neg (by simp), if_pos g4, if_neg (by simpa using g5)]))
       have gs : decide ((0 : Int) < ((str s3).size : Int)) = false := decide_eq_false (by rw [hsz3, g5]; simp)
       have gs' : decide (0 < (str s3).size) = false := decide_eq_false (by rw [hsz3, g5]; simp)
       generalize str s3 = S3 at *
       clear g4 g5 hsz3 HBO2 HBE2 hl3 hs3l
       have hwc := hbc
       have HBI := Lib.hid hbits
       clear hbits
       go_wp2_with fail
       obtain ⟨cs, hcs⟩ : ∃ cs, cs = ([] : List C.Cl) := ⟨_, rfl⟩
       have HRE := Lib.hid (show R = (((2 : Nat) : Int), C.join m cs, 0) by rw [hcs, join_none hc0, hml]; exact HRE0.out)
       have HJT := Lib.hid (fun j (h : j < m.length) => join_take m cs j h)
       have HJL := Lib.hid (fun j => show ((C.join m cs).take j).length ≤ 64 by rw [List.length_take, C.join_length]; omega)
       have HJA := Lib.hid (show (C.join m cs).take q = C.join m cs by rw [List.take_of_length_le (by rw [C.join_length]; omega)])
       have HCS := Lib.hid (fun j (h : j < m.length) => M.cnt_snoc m j h)
       have HCL := Lib.hid (fun j => show M.cnt (m.take j) ≤ d by rw [← hcnt]; exact M.cnt_take_le m j)
       have HBA := Lib.hid (fun j (h : j < q) => ones_at m j (by omega))
       have HML := Lib.hid hml
       have HCA := Lib.hid (cnt_all hc0)
       have hsz3w := hwc.size
       have hol : (ones m).length = q := by rw [ones_length]; exact hml
       have HOL := Lib.hid hol
       clear hcs hml hcnt hol hc0
       generalize C.join m cs = J at *
       go_loopw [18, 19, 20] (fun v at_ i wr3 => ∃ j : Nat, j ≤ q ∧ i = .int .i64 j ∧ at_ = .int .i64 ((M.cnt (m.take j) : Nat) : Int) ∧ CRow wc.heap.size (J.take j) v wr3 ∧ Below wc.heap.size wc wr3) (fun _ _ i _ => q - (intOf i).toNat)
       case atStart => exact ⟨0, by omega, rfl, rfl, cnilRow _ _, Below.refl _ _⟩
       case round =>
        obtain ⟨j, hj, rfl, rfl, hrowc, hbwc⟩ := hrel
        rename World => wr3
        by_cases hlt3 : j < q
        ·obtain ⟨bb, ob, rfl, hbb, hbc3⟩ := HBI.out (fun e => by have := congrArg List.length e; rw [HOL.out] at this; simp at this; omega)
         have kb := (hbwc.cell (p := ⟨bb, ob + j, none⟩) hbb).trans (hbc3 j (by rw [HOL.out]; exact hlt3))
         rw [HBA.out j hlt3] at kb
         have hjt := HJT.out j (by rw [HML.out]; exact hlt3)
         have hcsn := HCS.out j (by rw [HML.out]; exact hlt3)
         have hjl := HJL.out j
         have hcl1 := HCL.out (j + 1)
         have hjq : (j : Int) < (q : Int) := by omega
         clear hbc3
         have hb := HCA.out j
         rw [hb] at kb hjt hcsn
         rw [if_neg (by simp)] at hjt hcsn
         rw [if_neg (by simp)] at kb
         have HJN := Lib.hid hjt
         have HCN := Lib.hid hcsn
         have HROW := Lib.hid hrowc
         have hb5 : wc.heap.size ≤ (wr3.alloc (.cells #[.int .i64 0, .int .u64 0, .string ⟨#[]⟩] 50)).heap.size := by have := hbwc.size; simp; omega
         have hxl : ((J.take j).length + 1) * 32 ≤ 140737488355328 := by omega
         generalize J.take j = xs at *
         generalize M.cnt (m.take j) = p at *
         clear hjt hcsn hrowc hjl hcl1 hb
         go_wp2_with (at_builtin; refine wpList_append_onec rfl (.tmp 155) (.tmp 157) rfl wc.heap.size _ xs rfl (HROW.out.alloc_ _) wr3.heap.size C.null rfl (World.cell?_alloc_new _ _ _ _) (World.cell?_alloc_new _ _ _ _) (World.cell?_alloc_new _ _ _ _) hxl hb5 ?_)
         intro v' w4 hrow4 hb4 hgr4
         go_wp2_with fail
         exact ⟨⟨j + 1, by omega, by go_num, by rw [HCN.out]; rfl, by rw [HJN.out]; exact hrow4, (hbwc.alloc hbwc.size _).trans hb4⟩, by simp [intOf]; omega⟩
        ·obtain rfl : j = q := by omega
         rw [HJA.out] at hrowc
         go_wp2_with fail
         go_ret3
         rw [HRE.out]
         exact ⟨_, rfl, hrowc.weak hsz3w, hwc.trans (hbwc.mono hsz3w)⟩
      ·have HRE := Lib.hid (HBE2.out 1 (by unfold Pg.restR; simp only; rw [if_neg (by simp), if_pos g4, if_pos g5]) (by decide))
       have hsl : s3.length ≠ 0 := fun e => g5 (List.eq_nil_of_length_eq_zero e)
       have gs : decide ((0 : Int) < ((str s3).size : Int)) = true := decide_eq_true (by omega)
       have gs' : decide (0 < (str s3).size) = true := decide_eq_true (by omega)
       generalize str s3 = S3 at *
       clear g4 g5 hsz3 HBO2 HBE2 hl3 hs3l hml hcnt hsl hbits hc0
       go_wp2_with fail
       go_ret3
       rw [HRE.out]; exact BodyPost.none 1 hbc
     ·have gd : ((d : Int) == 0) = false := by rw [beq_eq_false_iff_ne]; omega
      have hd64 : d ≤ 64 := by omega
      have hN := fun W => tlof_any s3 d W (by unfold maxLen; omega)
      unfold TextsPost at hN
      have htd := (show Pg.toldR s3 ((2 : Nat) : Int) d = ((tlR s3 d).1.map fun x => (⟨2, 0, x⟩ : C.Cl), (tlR s3 d).2) from rfl)
      by_cases g6 : (tlR s3 d).2 ≠ 0
      ·have HRE := Lib.hid (HBE2.out (tlR s3 d).2 (by unfold Pg.restR; simp only; rw [if_neg (by simp), if_neg g4, htd]; exact if_pos g6) g6)
       have HN := Lib.hid hN
       generalize (tlR s3 d).2 = em at *
       generalize (tlR s3 d).1 = ns at *
       have ge : ((em : Int) != 0) = true := by rw [bne_iff_ne]; omega
       generalize str s3 = S3 at *
       clear g4 g6 hsz3 HBO2 HBE2 hl3 hs3l hml hcnt hbits htd hN
       go_wp2_with fail
       refine (HN.out _).mono ?_
       rintro e w3 ⟨an, cn, rfl, hns, hb3⟩
       go_wp2_with fail
       go_ret3
       rw [HRE.out]; exact BodyPost.none em (below_then hbc hb3)
      ·have g60 : (tlR s3 d).2 = 0 := Classical.not_not.1 g6
       have hnl := (Pg.tlR_ok hd64 g60).1
       have HRE := Lib.hid (HBO2.out (C.join m ((tlR s3 d).1.map fun x => (⟨2, 0, x⟩ : C.Cl))) (by unfold Pg.restR; simp only; rw [if_neg (by simp), if_neg g4, htd]; exact if_neg g6))
       rw [g60] at hN
       have HN := Lib.hid hN
       generalize (tlR s3 d).1 = ns at *
       have HNL := Lib.hid hnl
       generalize str s3 = S3 at *
       clear g4 g6 g60 hsz3 HBO2 HBE2 hl3 hs3l htd hN hnl
       go_wp2_with fail
       refine (HN.out _).mono ?_
       rintro e w3 ⟨an, cn, rfl, hns, hb3⟩
       have hw3 := below_then hbc hb3
       have HBI := Lib.hid (hbits.next hb3)
       have HNS := Lib.hid hns
       clear hbits hns hb3
       go_wp2_with fail
       obtain ⟨cs, hcs⟩ : ∃ cs, cs = (ns.map fun x => (⟨2, 0, x⟩ : C.Cl)) := ⟨_, rfl⟩
       rw [← hcs] at HRE
       have HJT := Lib.hid (fun j (h : j < m.length) => join_take m cs j h)
       have HJL := Lib.hid (fun j => show ((C.join m cs).take j).length ≤ 64 by rw [List.length_take, C.join_length]; omega)
       have HJA := Lib.hid (show (C.join m cs).take q = C.join m cs by rw [List.take_of_length_le (by rw [C.join_length]; omega)])
       have HCS := Lib.hid (fun j (h : j < m.length) => M.cnt_snoc m j h)
       have HCL := Lib.hid (fun j => show M.cnt (m.take j) ≤ d by rw [← hcnt]; exact M.cnt_take_le m j)
       have HBA := Lib.hid (fun j (h : j < q) => ones_at m j (by omega))
       have HML := Lib.hid hml
       have HGD := Lib.hid (fun p (h : p < ns.length) => show cs.getD p C.null = ⟨2, 0, ns.getD p []⟩ by rw [hcs]; simp [List.getD, List.getElem?_map, List.getElem?_eq_getElem h])
       have hsz3w := hw3.size
       have hol : (ones m).length = q := by rw [ones_length]; exact hml
       have HOL := Lib.hid hol
       clear hcs hml hcnt hol
       generalize C.join m cs = J at *
       go_loopw [18, 19, 20] (fun v at_ i wr3 => ∃ j : Nat, j ≤ q ∧ i = .int .i64 j ∧ at_ = .int .i64 ((M.cnt (m.take j) : Nat) : Int) ∧ CRow w3.heap.size (J.take j) v wr3 ∧ Below w3.heap.size w3 wr3) (fun _ _ i _ => q - (intOf i).toNat)
       case atStart => exact ⟨0, by omega, rfl, rfl, cnilRow _ _, Below.refl _ _⟩
       case round =>
        obtain ⟨j, hj, rfl, rfl, hrow3, hbw3⟩ := hrel
        rename World => wr3
        by_cases hlt3 : j < q
        ·obtain ⟨bb, ob, rfl, hbb, hbc3⟩ := HBI.out (fun e => by have := congrArg List.length e; rw [HOL.out] at this; simp at this; omega)
         have kb := (hbw3.cell (p := ⟨bb, ob + j, none⟩) hbb).trans (hbc3 j (by rw [HOL.out]; exact hlt3))
         rw [HBA.out j hlt3] at kb
         have hjt := HJT.out j (by rw [HML.out]; exact hlt3)
         have hcsn := HCS.out j (by rw [HML.out]; exact hlt3)
         have hjl := HJL.out j
         have hcl1 := HCL.out (j + 1)
         have hjq : (j : Int) < (q : Int) := by omega
         clear hbc3
         cases hb : m.getD j false with
         | false =>
          rw [hb] at kb hjt hcsn
          rw [if_neg (by simp)] at hjt hcsn
          rw [if_neg (by simp)] at kb
          have HJN := Lib.hid hjt
          have HCN := Lib.hid hcsn
          have HROW := Lib.hid hrow3
          have hb5 : w3.heap.size ≤ (wr3.alloc (.cells #[.int .i64 0, .int .u64 0, .string ⟨#[]⟩] 50)).heap.size := by have := hbw3.size; simp; omega
          have hxl : ((J.take j).length + 1) * 32 ≤ 140737488355328 := by omega
          generalize J.take j = xs at *
          generalize M.cnt (m.take j) = p at *
          clear hjt hcsn hrow3 hjl hcl1 hb
          go_wp2_with (at_builtin; refine wpList_append_onec rfl (.tmp 155) (.tmp 157) rfl w3.heap.size _ xs rfl (HROW.out.alloc_ _) wr3.heap.size C.null rfl (World.cell?_alloc_new _ _ _ _) (World.cell?_alloc_new _ _ _ _) (World.cell?_alloc_new _ _ _ _) hxl hb5 ?_)
          intro v' w4 hrow4 hb4 hgr4
          go_wp2_with fail
          exact ⟨⟨j + 1, by omega, by go_num, by rw [HCN.out]; rfl, by rw [HJN.out]; exact hrow4, (hbw3.alloc hbw3.size _).trans hb4⟩, by simp [intOf]; omega⟩
         | true =>
          rw [hb] at kb hjt hcsn
          rw [if_pos rfl] at hjt hcsn
          rw [if_pos rfl] at kb
          have hpn : M.cnt (m.take j) < ns.length := by have := HNL.out; omega
          have hp64 : M.cnt (m.take j) ≤ 64 := by have := HNL.out; omega
          rw [HGD.out _ hpn] at hjt
          have HJN := Lib.hid hjt
          have HCN := Lib.hid hcsn
          have HROW := Lib.hid hrow3
          obtain ⟨nb, no, rfl, hnb, hnc⟩ := HNS.out (fun e => by rw [e] at hpn; simp at hpn)
          have kn := (hbw3.cell (p := ⟨nb, no + M.cnt (m.take j), none⟩) hnb).trans (hnc _ hpn)
          have hpI : ((M.cnt (m.take j) : Nat) : Int) < (ns.length : Int) := by omega
          generalize M.cnt (m.take j) = p at *
          generalize ns.getD p [] = x at *
          have hb5 : w3.heap.size ≤ (wr3.alloc (.cells #[.int .i64 2, .int .u64 0, .string (str x)] 50)).heap.size := by have := hbw3.size; simp; omega
          have hxl : ((J.take j).length + 1) * 32 ≤ 140737488355328 := by omega
          generalize J.take j = xs at *
          clear hjt hcsn hrow3 hjl hcl1 hb hnc
          go_wp2_with (at_builtin; refine wpList_append_onec rfl (.tmp 171) (.tmp 177) rfl w3.heap.size _ xs rfl (HROW.out.alloc_ _) wr3.heap.size ⟨2, 0, x⟩ rfl (World.cell?_alloc_new _ _ _ _) (World.cell?_alloc_new _ _ _ _) (World.cell?_alloc_new _ _ _ _) hxl hb5 ?_)
          intro v' w4 hrow4 hb4 hgr4
          go_wp2_with fail
          exact ⟨⟨j + 1, by omega, by go_num, by rw [HCN.out]; go_num, by rw [HJN.out]; exact hrow4, (hbw3.alloc hbw3.size _).trans hb4⟩, by simp [intOf]; omega⟩
        ·obtain rfl : j = q := by omega
         rw [HJA.out] at hrow3
         go_wp2_with fail
         go_ret3
         rw [HRE.out]
         exact ⟨_, rfl, hrow3.weak hsz3w, hw3.trans (hbw3.mono hsz3w)⟩
end Go.Proofs.YtcachhnhncodoaaGreat
