/- The walks of codec.next, toldPlain. -/
import Derived.Test.YtmiboibadccceaaGreatKW1
namespace Go.Proofs.YtmiboibadccceaaGreat
open Go.RowKit
set_option linter.unusedVariables false

/-- the text with which plain texts begin, and what is left -/
def nxR (s : List UInt8) : List UInt8 × List UInt8 × Nat :=
  if (V.rd s).2.2 ≠ 0 then ([], [], (V.rd s).2.2)
  else if 16 < (V.rd s).1 then ([], [], 2)
  else if s.length < (V.rd s).2.1 + (V.rd s).1 then ([], [], 5)
  else ((s.drop (V.rd s).2.1).take (V.rd s).1, s.drop ((V.rd s).2.1 + (V.rd s).1), 0)
def NxPost (r : List UInt8 × List UInt8 × Nat) (w : World) (e : Ending) (w' : World) : Prop := e = .returned (.tuple #[.string (str r.1), .string (str r.2.1), .int .i64 r.2.2]) ∧ Below w.heap.size w w'
theorem nx_bad (acc : List (List UInt8)) (m : Nat) (s : List UInt8) (h : (nxR s).2.2 ≠ 0) : plG acc (plR (m + 1) s) = ([], (nxR s).2.2) := by
  obtain ⟨x, k, e, he⟩ : ∃ x k e, V.rd s = (x, k, e) := ⟨_, _, _, rfl⟩
  unfold nxR at h ⊢
  rw [he] at h ⊢
  simp only at h ⊢
  by_cases h0 : e ≠ 0
  · rw [if_pos h0]; exact plG_bad he h0
  obtain rfl : e = 0 := Decidable.not_not.1 h0
  rw [if_neg h0] at h ⊢
  by_cases h1 : 16 < x
  · rw [if_pos h1]; exact plG_many he h1
  rw [if_neg h1] at h ⊢
  by_cases h2 : s.length < k + x
  · rw [if_pos h2]; exact plG_short he h1 h2
  rw [if_neg h2] at h
  exact absurd rfl h
theorem nx_ok (acc : List (List UInt8)) (m : Nat) (s : List UInt8) (h : (nxR s).2.2 = 0) : plG acc (plR (m + 1) s) = plG (acc ++ [(nxR s).1]) (plR m (nxR s).2.1) ∧ (nxR s).2.1.length ≤ s.length := by
  obtain ⟨x, k, e, he⟩ : ∃ x k e, V.rd s = (x, k, e) := ⟨_, _, _, rfl⟩
  unfold nxR at h ⊢
  rw [he] at h ⊢
  simp only at h ⊢
  by_cases h0 : e ≠ 0
  · rw [if_pos h0] at h; exact absurd h h0
  obtain rfl : e = 0 := Decidable.not_not.1 h0
  rw [if_neg h0] at h ⊢
  by_cases h1 : 16 < x
  · rw [if_pos h1] at h; exact absurd h (by decide)
  rw [if_neg h1] at h ⊢
  by_cases h2 : s.length < k + x
  · rw [if_pos h2] at h; exact absurd h (by decide)
  rw [if_neg h2]
  exact ⟨plG_next he h1 h2, by rw [List.length_drop]; omega⟩

set_option maxHeartbeats 2000000 in
set_option maxRecDepth 100000 in
theorem knext_any (s : List UInt8) (w : World) (hs : s.length ≤ maxLen) :
    Calls Tryz.prog 147 #[.string (str s)] w (NxPost (nxR s) w) := by
  have hv1 := vread_any (str s) w (by rw [str_size]; exact hs)
  rw [str_data] at hv1
  unfold ReadPost at hv1
  have hsz := str_size s
  unfold maxLen at hs
  obtain ⟨x, k, e, he⟩ : ∃ x k e, V.rd s = (x, k, e) := ⟨_, _, _, rfl⟩
  have hN : nxR s = if e ≠ 0 then ([], [], e) else if 16 < x then ([], [], 2) else if s.length < k + x then ([], [], 5) else ((s.drop k).take x, s.drop (k + x), 0) := by
    unfold nxR; rw [he]
  have hb1 := V.rd_bad s
  rw [he] at hv1 hb1
  simp only at hv1
  have HV1 := Lib.hid hv1
  clear hv1
  by_cases h0 : e ≠ 0
  · have HR := Lib.hid (show nxR s = ([], [], e) by rw [hN, if_pos h0])
    have g1 : ((e : Int) != 0) = true := by rw [bne_iff_ne]; omega
    generalize str s = S at *
    clear hN he h0 hb1 hsz
    go_enter Tryz.func147, Tryz.ntmps147
    go_wp2_with fail
    refine (HV1.out).mono ?_
    rintro e2 w1 ⟨rfl, hbl⟩
    go_wp2_with fail
    go_ret3
    rw [HR.out]; exact ⟨rfl, hbl⟩
  obtain rfl : e = 0 := Decidable.not_not.1 h0
  rw [if_neg h0] at hN
  obtain ⟨hk1, hkl, _, hx, hk9, _⟩ := V.rd_ok _ _ _ he
  by_cases h2 : 16 < x
  · have HR := Lib.hid (show nxR s = ([], [], 2) by rw [hN, if_pos h2])
    have g3 : decide (16 < x) = true := decide_eq_true h2
    have g3' : decide ((16 : Int) < (x : Int)) = true := decide_eq_true (by omega)
    generalize str s = S at *
    clear hN he h0 hb1 hsz h2
    go_enter Tryz.func147, Tryz.ntmps147
    go_wp2_with fail
    refine (HV1.out).mono ?_
    rintro e2 w1 ⟨rfl, hbl⟩
    go_wp2_with fail
    go_ret3
    rw [HR.out]; exact ⟨rfl, hbl⟩
  rw [if_neg h2] at hN
  have g3 : decide (16 < x) = false := decide_eq_false h2
  have g3' : decide ((16 : Int) < (x : Int)) = false := decide_eq_false (by omega)
  have hwx : IntKind.i64.wrap (x : Int) = (x : Int) := by rw [IntKind.wrap_i64]; omega
  have hwk : IntKind.i64.wrap ((k : Int) + (x : Int)) = (k : Int) + (x : Int) := by rw [IntKind.wrap_i64]; omega
  by_cases h5 : s.length < k + x
  · have HR := Lib.hid (show nxR s = ([], [], 5) by rw [hN, if_pos h5])
    have g6 : decide ((str s).size < k + x) = true := decide_eq_true (by omega)
    have g6' : decide (((str s).size : Int) < (k : Int) + (x : Int)) = true := decide_eq_true (by omega)
    generalize str s = S at *
    clear hN he h0 hb1 hsz h2 h5
    go_enter Tryz.func147, Tryz.ntmps147
    go_wp2_with fail
    refine (HV1.out).mono ?_
    rintro e2 w1 ⟨rfl, hbl⟩
    go_wp2_with fail
    go_ret3
    rw [HR.out]; exact ⟨rfl, hbl⟩
  rw [if_neg h5] at hN
  have HR := Lib.hid hN
  have g6 : decide ((str s).size < k + x) = false := decide_eq_false (by omega)
  have g6' : decide (((str s).size : Int) < (k : Int) + (x : Int)) = false := decide_eq_false (by omega)
  have HXT := Lib.hid (show (str s).extract (k + x) (str s).size = str (s.drop (k + x)) from str_drop s _)
  have hXC : (str s).extract k (k + x) = str ((s.drop k).take x) := str_cut s k x
  have htl : ((s.drop k).take x).length ≤ 16 := by rw [List.length_take]; omega
  have hcl := fun W => clone_any ((s.drop k).take x) W (by omega)
  rw [← hXC] at hcl
  unfold TextPost at hcl
  rw [← hXC] at hcl
  have HCL := Lib.hid hcl
  have HXC := Lib.hid hXC
  have hkx : k + x ≤ (str s).size := by omega
  have hkxI : (k : Int) + (x : Int) ≤ ((str s).size : Int) := by omega
  have hkxn : ((k : Int) + (x : Int)).toNat = k + x := by omega
  have hkx0 : (0 : Int) ≤ (k : Int) + (x : Int) := by omega
  have hkx1 : (k : Int) ≤ (k : Int) + (x : Int) := by omega
  generalize (s.drop k).take x = t at *
  generalize s.drop (k + x) = q at *
  generalize str s = S at *
  clear hN he h0 hb1 hsz h2 h5 hcl hXC htl
  go_enter Tryz.func147, Tryz.ntmps147
  go_wp2_with fail
  refine (HV1.out).mono ?_
  rintro e2 w1 ⟨rfl, hbl⟩
  go_wp2_with fail
  refine wp_region_wbh (by kernel_rfl) (by kernel_rfl) ?_
  iterate 11 (refine wq_step (fun K hK => ?_); go_simp; first | (refine hK _ ?_; clear hK K) | (apply Exists.intro; refine ⟨fun _ => ?_, hK _ ?_⟩; (go_at_call 163; exact calls_wb (HCL.out _)); clear hK K))
  refine wq_nil ?_
  rintro _ ⟨p, rfl⟩
  have hp := p.below
  go_wp2_with fail
  go_ret3
  rw [HR.out]
  exact ⟨by rw [← HXC.out, ← HXT.out]; rfl, below_then hbl hp⟩

theorem plG_end (acc : List (List UInt8)) (r : List UInt8) : plG acc (plR 0 r) = if r = [] then (acc, 0) else ([], 1) := by
  by_cases h : r = []
  · rw [if_pos h]; subst h; simp [plR, plG]
  · rw [if_neg h]; simp [plR, plG, h]
def TextsPostR (r : List (List UInt8) × Nat) (w : World) (e : Ending) (w' : World) : Prop :=
  ∃ a c, e = .returned (.tuple #[.slice a r.1.length c, .int .i64 r.2]) ∧ TRow w.heap.size r.1 (.slice a r.1.length c) w' ∧ Below w.heap.size w w'
theorem TextsPostR.none {w w' : World} (er : Nat) (h : Below w.heap.size w w') : TextsPostR ([], er) w (.returned (.tuple #[.slice none 0 0, .int .i64 er])) w' :=
  ⟨Option.none, 0, rfl, tnilRow _ _, h⟩
theorem TextsPostR.weak {r : List (List UInt8) × Nat} {w w' : World} {e : Ending} (h : TextsPostR r w e w') : TextsPost r w e w' := by
  obtain ⟨a, c, he, hr, hb⟩ := h
  exact ⟨a, c, he, hr.txts.1, hb⟩

set_option maxHeartbeats 2000000 in
set_option maxRecDepth 100000 in
theorem toldPlain_any (s : List UInt8) (n : Nat) (w : World) (hs : s.length ≤ maxLen) (hn : n ≤ 64) :
    Calls Tryz.prog 103 #[.string (str s), .int .i64 (n : Int)] w (TextsPostR (plR n s) w) := by
  obtain ⟨i0, hi, hz0, hz1, hz2⟩ := info_parts info_str
  unfold maxLen at hs
  have H0 := Lib.hid (show plR n s = plG [] (plR (n - ([] : List (List UInt8)).length) s) from plR_plG n s)
  obtain ⟨R, hR⟩ : ∃ R, R = plR n s := ⟨_, rfl⟩
  rw [← hR] at H0 ⊢
  clear hR
  go_enter Tryz.func103, Tryz.ntmps103
  go_wp2_with (at_make; refine wpList_make_full _ rfl _ _ 31 rfl w.heap.size 9 i0 (.string ByteArray.empty) 1 Tryz.underlying31 hi hz0 hz1 .i64 .i64 _ _ n rfl rfl rfl rfl (by rw [hz2]; omega) (by unfold maxLen; omega) (Nat.le_refl _) ?_; intro w0 hown0 hgrow0)
  have hb0 : Below w.heap.size w w0 := (Below.refl _ _).grown hgrow0 (Nat.le_refl _) (fun k hk => by cases hk)
  have hrow := made_trow hown0
  obtain ⟨g, hg⟩ : ∃ g, g = w.heap.size := ⟨_, rfl⟩
  have hgl : w.heap.size ≤ g := by omega
  rw [← hg] at hrow ⊢
  have hrow' : TRow w.heap.size (List.replicate n []) (.slice (some ⟨g, 0, none⟩) n n) w0 := by rw [← hg]; exact hrow
  clear hown0 hgrow0 hrow hg
  go_wp2_with fail
  go_loopw [0, 7, 8, 9, 10, 15] (fun t _ _ _ _ i wr => ∃ (acc : List (List UInt8)) (r : List UInt8), acc.length ≤ n ∧ i = .int .i64 (acc.length : Nat) ∧ t = .string (str r) ∧ r.length ≤ 9223372036854775807 ∧ TRow w.heap.size (acc ++ List.replicate (n - acc.length) []) (.slice (some ⟨g, 0, none⟩) n n) wr ∧ Below w.heap.size w wr ∧ Hid (R = plG acc (plR (n - acc.length) r))) (fun _ _ _ _ _ i _ => n - (intOf i).toNat)
  case atStart => exact ⟨[], s, by simp, rfl, rfl, by omega, hrow', hb0, H0⟩
  case round =>
    obtain ⟨acc, r, hj, rfl, rfl, hr, hrw, hbw, HJ⟩ := hrel
    clear hrow' hb0
    obtain ⟨j, hj2⟩ : ∃ j, j = acc.length := ⟨_, rfl⟩
    rw [← hj2] at hj HJ hrw ⊢
    have HJ2 := Lib.hid hj2
    clear hj2
    by_cases hlt : j < n
    · have hnx := knext_any r wr (by unfold maxLen; omega)
      have HGB := Lib.hid (nx_bad acc (n - (j + 1)) r)
      have HGO := Lib.hid (nx_ok acc (n - (j + 1)) r)
      rw [show n - (j + 1) + 1 = n - j by omega] at HGB HGO
      unfold NxPost at hnx
      obtain ⟨t, q, e, he⟩ : ∃ t q e, nxR r = (t, q, e) := ⟨_, _, _, rfl⟩
      rw [he] at hnx HGB HGO
      simp only at hnx HGB HGO
      have HN := Lib.hid hnx
      have HFS := Lib.hid (show (acc ++ List.replicate (n - j) []).set j t = (acc ++ [t]) ++ List.replicate (n - (acc ++ [t]).length) [] by have h2 := HJ2.out; rw [h2]; exact fill_step acc t n (by omega))
      have HL2 := Lib.hid (show (acc ++ [t]).length = j + 1 by have h2 := HJ2.out; rw [h2]; simp)
      have hjI : (j : Int) < (n : Int) := by omega
      clear hnx he
      by_cases h0 : e = 0
      · subst h0
        have HRN := Lib.hid (show R = plG (acc ++ [t]) (plR (n - (j + 1)) q) by rw [HJ.out]; exact (HGO.out rfl).1)
        have hql : q.length ≤ 9223372036854775807 := by have := (HGO.out rfl).2; omega
        clear HGB HGO HJ
        go_wp2_with fail
        refine (HN.out).mono ?_
        rintro e2 w1 ⟨rfl, hb1⟩
        have hrw1 := hrw.below hb1
        have c1 := hrw1.cell j (by rw [List.length_append, List.length_replicate]; have := HJ2.out; omega)
        have f1 := hrw1.free j
        have hrw2 := hrw1.put j t
        rw [HFS.out] at hrw2
        have hbw2 : Below w.heap.size w (w1.setCell ⟨g, j, none⟩ (.string (str t))) := (below_then hbw hb1).setCell (p := ⟨g, j, none⟩) hgl _
        generalize (acc ++ List.replicate (n - j) []).getD j [] = old at *
        have HRW := Lib.hid hrw2
        clear hrw hrw1 hrw2
        go_wp2_with fail
        exact ⟨⟨acc ++ [t], q, by rw [HL2.out]; omega, by rw [HL2.out]; go_num, rfl, hql, HRW.out, hbw2, Lib.hid (by rw [HL2.out]; exact HRN.out)⟩, by simp [intOf]; omega⟩
      · have HRN := Lib.hid (show R = ([], e) by rw [HJ.out]; exact HGB.out h0)
        have g3 : ((e : Int) != 0) = true := by rw [bne_iff_ne]; omega
        clear HGB HGO HJ
        go_wp2_with fail
        refine (HN.out).mono ?_
        rintro e2 w1 ⟨rfl, hb1⟩
        go_wp2_with fail
        go_ret2
        rw [HRN.out]
        exact TextsPostR.none _ (below_then hbw hb1)
    · obtain rfl : j = n := by omega
      rw [Nat.sub_self, plG_end] at HJ
      rw [Nat.sub_self, List.replicate_zero, List.append_nil] at hrw
      have hsr := str_size r
      by_cases hr0 : r = []
      · subst hr0
        have HRN := Lib.hid (show R = (acc, 0) by rw [HJ.out, if_pos rfl])
        have hne : (str []).toList.isEmpty = true := by rw [str_toList]; rfl
        have HRW := Lib.hid hrw
        clear HJ hrw
        go_wp2_with fail
        go_ret2
        rw [HRN.out]
        exact ⟨_, _, by simp only; rw [← HJ2.out]; rfl, by simp only; rw [← HJ2.out]; exact HRW.out, hbw⟩
      · have HRN := Lib.hid (show R = ([], 1) by rw [HJ.out, if_neg hr0])
        have hne : (str r).toList.isEmpty = false := by
          rw [str_toList]
          cases r with
          | nil => exact absurd rfl hr0
          | cons x t => rfl
        generalize str r = S at *
        clear HJ hrw
        go_wp2_with fail
        go_ret2
        rw [HRN.out]
        exact TextsPostR.none 1 hbw
end Go.Proofs.YtmiboibadccceaaGreat
